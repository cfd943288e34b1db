/-
  No cell of these rows narrows 'for every input' (looked for: loops, veiled, ifaces, maps, wideKeys, modest, calm, conditions, laid).
  DERIVED. THE GIVEN ROWS OF THIS SEAT. 11 by the template 'for every input the law returns true; each argument reads behind the call as it read before'; 0 by the template 'total and deterministic' (their statements: YtheiffjnddhcoaaTotals.lean).
  GIVEN WITH THE SEED: the statements are not yours to turn. If you find one false, say at which input.
  Laid BY PROGRAM, IN A SANDBOX (cutbox-rows.mjs): the forced cells as the released guide's own fill.sh prints them over the translation e4d014942c59aa3f… (all of the seat's roots in one cut). By AI agents, Wed Nov 11 2026. No macro, syntax, notation, axiom, sorry.
-/
import Derived.Test.YtheiffjnddhcoaaChecked
import GoSem.Claim
import GoSem.ClaimJoined
import GoSem.ClaimMapViews
import Derived.JoinedTies
import Derived.KernelRfl
namespace Go.Proofs.Ytheiffjnddhcoaa
/- THE CELL 'sum', in the pinned program and in every row, IS THE sha256 OF THE DUMP (.gsa) THAT YtheiffjnddhcoaaProg.lean LOADS. Nothing in Lean hashes anything: it is a label: what it is worth is what the hold of that sum in a sandbox is worth. -/
noncomputable def Try.pinned : Pinned := { name := "ytheiffjnddhcoaa", sum := "e4d014942c59aa3f08c93ddb4c81576ec4fb8b2d6fe58aa1b0c5e6251592371e", checked := Try.checked }
namespace Rows
def none {H : Type} : Left H := { results := [], args := [] }

/-- 'stooklaw01.LebNumbers': WHATEVER THE INPUT: true; the input reads as it did. -/
def lebNumbersSpec : ChangeSpec := { name := "lebNumbers", fn := fun _ => fun
  | [d] => { results := [.lit (.bool true)], args := [d] }
  | _ => none }
def lebNumbersRow : OpenClaim := { program := "ytheiffjnddhcoaa", sum := "e4d014942c59aa3f08c93ddb4c81576ec4fb8b2d6fe58aa1b0c5e6251592371e", func := "stook/stooklaw01.LebNumbers", spec := "lebNumbers", recurses := true, apart := false }
def LebNumbersSaid : Prop := lebNumbersRow.holds Try.pinned (OpenSpec.ofChange lebNumbersSpec)

/-- ITS FALSE NEIGHBOUR: 'it returns false'. Refute it at one input. -/
def lebNumbersWrong : ChangeSpec := { name := "lebNumbers", fn := fun _ => fun
  | [d] => { results := [.lit (.bool false)], args := [d] }
  | _ => none }
def LebNumbersWrongFalsely : Prop := lebNumbersRow.holds Try.pinned (OpenSpec.ofChange lebNumbersWrong)

/-- 'stooklaw01.LebReads': WHATEVER THE INPUT: true; the input reads as it did. -/
def lebReadsSpec : ChangeSpec := { name := "lebReads", fn := fun _ => fun
  | [d1, d2] => { results := [.lit (.bool true)], args := [d1, d2] }
  | _ => none }
def lebReadsRow : OpenClaim := { program := "ytheiffjnddhcoaa", sum := "e4d014942c59aa3f08c93ddb4c81576ec4fb8b2d6fe58aa1b0c5e6251592371e", func := "stook/stooklaw01.LebReads", spec := "lebReads", apart := false }
def LebReadsSaid : Prop := lebReadsRow.holds Try.pinned (OpenSpec.ofChange lebReadsSpec)

/-- ITS FALSE NEIGHBOUR: 'it returns false'. Refute it at one input. -/
def lebReadsWrong : ChangeSpec := { name := "lebReads", fn := fun _ => fun
  | [d1, d2] => { results := [.lit (.bool false)], args := [d1, d2] }
  | _ => none }
def LebReadsWrongFalsely : Prop := lebReadsRow.holds Try.pinned (OpenSpec.ofChange lebReadsWrong)

/-- 'stooklaw01.LebRows': WHATEVER THE INPUT: true; the input reads as it did. -/
def lebRowsSpec : ChangeSpec := { name := "lebRows", fn := fun _ => fun
  | [d1, d2, d3, d4] => { results := [.lit (.bool true)], args := [d1, d2, d3, d4] }
  | _ => none }
def lebRowsRow : OpenClaim := { program := "ytheiffjnddhcoaa", sum := "e4d014942c59aa3f08c93ddb4c81576ec4fb8b2d6fe58aa1b0c5e6251592371e", func := "stook/stooklaw01.LebRows", spec := "lebRows", recurses := true, apart := false }
def LebRowsSaid : Prop := lebRowsRow.holds Try.pinned (OpenSpec.ofChange lebRowsSpec)

/-- ITS FALSE NEIGHBOUR: 'it returns false'. Refute it at one input. -/
def lebRowsWrong : ChangeSpec := { name := "lebRows", fn := fun _ => fun
  | [d1, d2, d3, d4] => { results := [.lit (.bool false)], args := [d1, d2, d3, d4] }
  | _ => none }
def LebRowsWrongFalsely : Prop := lebRowsRow.holds Try.pinned (OpenSpec.ofChange lebRowsWrong)

/-- 'stooklaw01.LebLists': WHATEVER THE INPUT: true; the input reads as it did. -/
def lebListsSpec : ChangeSpec := { name := "lebLists", fn := fun _ => fun
  | [d1, d2, d3, d4] => { results := [.lit (.bool true)], args := [d1, d2, d3, d4] }
  | _ => none }
def lebListsRow : OpenClaim := { program := "ytheiffjnddhcoaa", sum := "e4d014942c59aa3f08c93ddb4c81576ec4fb8b2d6fe58aa1b0c5e6251592371e", func := "stook/stooklaw01.LebLists", spec := "lebLists", recurses := true, apart := false }
def LebListsSaid : Prop := lebListsRow.holds Try.pinned (OpenSpec.ofChange lebListsSpec)

/-- ITS FALSE NEIGHBOUR: 'it returns false'. Refute it at one input. -/
def lebListsWrong : ChangeSpec := { name := "lebLists", fn := fun _ => fun
  | [d1, d2, d3, d4] => { results := [.lit (.bool false)], args := [d1, d2, d3, d4] }
  | _ => none }
def LebListsWrongFalsely : Prop := lebListsRow.holds Try.pinned (OpenSpec.ofChange lebListsWrong)

/-- 'stooklaw01.LebBack': WHATEVER THE INPUT: true; the input reads as it did. -/
def lebBackSpec : ChangeSpec := { name := "lebBack", fn := fun _ => fun
  | [d1, d2, d3] => { results := [.lit (.bool true)], args := [d1, d2, d3] }
  | _ => none }
def lebBackRow : OpenClaim := { program := "ytheiffjnddhcoaa", sum := "e4d014942c59aa3f08c93ddb4c81576ec4fb8b2d6fe58aa1b0c5e6251592371e", func := "stook/stooklaw01.LebBack", spec := "lebBack", apart := false }
def LebBackSaid : Prop := lebBackRow.holds Try.pinned (OpenSpec.ofChange lebBackSpec)

/-- ITS FALSE NEIGHBOUR: 'it returns false'. Refute it at one input. -/
def lebBackWrong : ChangeSpec := { name := "lebBack", fn := fun _ => fun
  | [d1, d2, d3] => { results := [.lit (.bool false)], args := [d1, d2, d3] }
  | _ => none }
def LebBackWrongFalsely : Prop := lebBackRow.holds Try.pinned (OpenSpec.ofChange lebBackWrong)

/-- 'stooklaw01.LebRowsBack': WHATEVER THE INPUT: true; the input reads as it did. -/
def lebRowsBackSpec : ChangeSpec := { name := "lebRowsBack", fn := fun _ => fun
  | [d1, d2, d3] => { results := [.lit (.bool true)], args := [d1, d2, d3] }
  | _ => none }
def lebRowsBackRow : OpenClaim := { program := "ytheiffjnddhcoaa", sum := "e4d014942c59aa3f08c93ddb4c81576ec4fb8b2d6fe58aa1b0c5e6251592371e", func := "stook/stooklaw01.LebRowsBack", spec := "lebRowsBack", apart := false }
def LebRowsBackSaid : Prop := lebRowsBackRow.holds Try.pinned (OpenSpec.ofChange lebRowsBackSpec)

/-- ITS FALSE NEIGHBOUR: 'it returns false'. Refute it at one input. -/
def lebRowsBackWrong : ChangeSpec := { name := "lebRowsBack", fn := fun _ => fun
  | [d1, d2, d3] => { results := [.lit (.bool false)], args := [d1, d2, d3] }
  | _ => none }
def LebRowsBackWrongFalsely : Prop := lebRowsBackRow.holds Try.pinned (OpenSpec.ofChange lebRowsBackWrong)

/-- 'stooklaw01.LebOne': WHATEVER THE INPUT: true; the input reads as it did. -/
def lebOneSpec : ChangeSpec := { name := "lebOne", fn := fun _ => fun
  | [d1, d2] => { results := [.lit (.bool true)], args := [d1, d2] }
  | _ => none }
def lebOneRow : OpenClaim := { program := "ytheiffjnddhcoaa", sum := "e4d014942c59aa3f08c93ddb4c81576ec4fb8b2d6fe58aa1b0c5e6251592371e", func := "stook/stooklaw01.LebOne", spec := "lebOne", apart := false }
def LebOneSaid : Prop := lebOneRow.holds Try.pinned (OpenSpec.ofChange lebOneSpec)

/-- ITS FALSE NEIGHBOUR: 'it returns false'. Refute it at one input. -/
def lebOneWrong : ChangeSpec := { name := "lebOne", fn := fun _ => fun
  | [d1, d2] => { results := [.lit (.bool false)], args := [d1, d2] }
  | _ => none }
def LebOneWrongFalsely : Prop := lebOneRow.holds Try.pinned (OpenSpec.ofChange lebOneWrong)

/-- 'stooklaw01.LebFree': WHATEVER THE INPUT: true; the input reads as it did. -/
def lebFreeSpec : ChangeSpec := { name := "lebFree", fn := fun _ => fun
  | [d1, d2] => { results := [.lit (.bool true)], args := [d1, d2] }
  | _ => none }
def lebFreeRow : OpenClaim := { program := "ytheiffjnddhcoaa", sum := "e4d014942c59aa3f08c93ddb4c81576ec4fb8b2d6fe58aa1b0c5e6251592371e", func := "stook/stooklaw01.LebFree", spec := "lebFree", apart := false }
def LebFreeSaid : Prop := lebFreeRow.holds Try.pinned (OpenSpec.ofChange lebFreeSpec)

/-- ITS FALSE NEIGHBOUR: 'it returns false'. Refute it at one input. -/
def lebFreeWrong : ChangeSpec := { name := "lebFree", fn := fun _ => fun
  | [d1, d2] => { results := [.lit (.bool false)], args := [d1, d2] }
  | _ => none }
def LebFreeWrongFalsely : Prop := lebFreeRow.holds Try.pinned (OpenSpec.ofChange lebFreeWrong)

/-- 'stooklaw01.LebFresh': WHATEVER THE INPUT: true; the input reads as it did. -/
def lebFreshSpec : ChangeSpec := { name := "lebFresh", fn := fun _ => fun
  | [d1, d2] => { results := [.lit (.bool true)], args := [d1, d2] }
  | _ => none }
def lebFreshRow : OpenClaim := { program := "ytheiffjnddhcoaa", sum := "e4d014942c59aa3f08c93ddb4c81576ec4fb8b2d6fe58aa1b0c5e6251592371e", func := "stook/stooklaw01.LebFresh", spec := "lebFresh", recurses := true, apart := false }
def LebFreshSaid : Prop := lebFreshRow.holds Try.pinned (OpenSpec.ofChange lebFreshSpec)

/-- ITS FALSE NEIGHBOUR: 'it returns false'. Refute it at one input. -/
def lebFreshWrong : ChangeSpec := { name := "lebFresh", fn := fun _ => fun
  | [d1, d2] => { results := [.lit (.bool false)], args := [d1, d2] }
  | _ => none }
def LebFreshWrongFalsely : Prop := lebFreshRow.holds Try.pinned (OpenSpec.ofChange lebFreshWrong)

/-- 'stooklaw01.LebLens': WHATEVER THE INPUT: true; the input reads as it did. -/
def lebLensSpec : ChangeSpec := { name := "lebLens", fn := fun _ => fun
  | [d1, d2] => { results := [.lit (.bool true)], args := [d1, d2] }
  | _ => none }
def lebLensRow : OpenClaim := { program := "ytheiffjnddhcoaa", sum := "e4d014942c59aa3f08c93ddb4c81576ec4fb8b2d6fe58aa1b0c5e6251592371e", func := "stook/stooklaw01.LebLens", spec := "lebLens", apart := false }
def LebLensSaid : Prop := lebLensRow.holds Try.pinned (OpenSpec.ofChange lebLensSpec)

/-- ITS FALSE NEIGHBOUR: 'it returns false'. Refute it at one input. -/
def lebLensWrong : ChangeSpec := { name := "lebLens", fn := fun _ => fun
  | [d1, d2] => { results := [.lit (.bool false)], args := [d1, d2] }
  | _ => none }
def LebLensWrongFalsely : Prop := lebLensRow.holds Try.pinned (OpenSpec.ofChange lebLensWrong)

/-- 'stooklaw01.LebRowOne': WHATEVER THE INPUT: true; the input reads as it did. -/
def lebRowOneSpec : ChangeSpec := { name := "lebRowOne", fn := fun _ => fun
  | [d1, d2, d3] => { results := [.lit (.bool true)], args := [d1, d2, d3] }
  | _ => none }
def lebRowOneRow : OpenClaim := { program := "ytheiffjnddhcoaa", sum := "e4d014942c59aa3f08c93ddb4c81576ec4fb8b2d6fe58aa1b0c5e6251592371e", func := "stook/stooklaw01.LebRowOne", spec := "lebRowOne", apart := false }
def LebRowOneSaid : Prop := lebRowOneRow.holds Try.pinned (OpenSpec.ofChange lebRowOneSpec)

/-- ITS FALSE NEIGHBOUR: 'it returns false'. Refute it at one input. -/
def lebRowOneWrong : ChangeSpec := { name := "lebRowOne", fn := fun _ => fun
  | [d1, d2, d3] => { results := [.lit (.bool false)], args := [d1, d2, d3] }
  | _ => none }
def LebRowOneWrongFalsely : Prop := lebRowOneRow.holds Try.pinned (OpenSpec.ofChange lebRowOneWrong)

/- THE SECOND FORM. 'bulk': how many values and letters a reading holds, each counted each time it is reached (what is shared counts as often as it is met; a slice's spare places count too). A statement '..UptoSaid' is the law's where the arguments, and the package variables that the reading takes, are together of bulk at most 1048576: NARROWER than '..Said'. Prove '..Said' where nothing that the law and all that it calls make is longer than what came in: it says more and counts as full. Else prove '..UptoSaid'. A law counts once. -/
mutual
def uptoBulk {H : Type} : DataW H → Nat
  | .lit (.string bytes) => bytes.length + 1
  | .lit _ => 1
  | .nil => 1
  | .ptr d => uptoBulk d + 1
  | .slice elems spare => uptoBulkAll elems + uptoBulkAll spare + 1
  | .agg parts => uptoBulkAll parts + 1
  | .iface _ d => uptoBulk d + 1
  | .map entries => uptoBulkEntries entries + 1
  | .held _ => 1
def uptoBulkAll {H : Type} : List (DataW H) → Nat
  | [] => 0
  | d :: r => uptoBulk d + uptoBulkAll r
def uptoBulkEntries {H : Type} : List (Lit × DataW H) → Nat
  | [] => 0
  | x :: r => uptoBulkEntry x + uptoBulkEntries r
def uptoBulkEntry {H : Type} : Lit × DataW H → Nat
  | (.string bytes, d) => bytes.length + uptoBulk d + 1
  | (_, d) => uptoBulk d + 1
 end
def uptoSmall : (H : Type) → List (DataW H) → Bool := fun _ ds => decide (uptoBulkAll ds ≤ 1048576)
def OpenSpec.upto (s : _root_.Go.ChangeSpec) : _root_.Go.OpenSpec := { _root_.Go.OpenSpec.ofChange s with cond := some uptoSmall }

/-- 'stooklaw01.LebNumbers', WHERE WHAT IT READS IS OF BULK AT MOST 1048576: true; the input reads as it did. -/
def lebNumbersUptoRow : OpenClaim := { program := "ytheiffjnddhcoaa", sum := "e4d014942c59aa3f08c93ddb4c81576ec4fb8b2d6fe58aa1b0c5e6251592371e", func := "stook/stooklaw01.LebNumbers", spec := "lebNumbers", recurses := true, apart := false, narrowed := true }
def LebNumbersUptoSaid : Prop := lebNumbersUptoRow.holds Try.pinned (OpenSpec.upto lebNumbersSpec)

/-- 'stooklaw01.LebReads', WHERE WHAT IT READS IS OF BULK AT MOST 1048576: true; the input reads as it did. -/
def lebReadsUptoRow : OpenClaim := { program := "ytheiffjnddhcoaa", sum := "e4d014942c59aa3f08c93ddb4c81576ec4fb8b2d6fe58aa1b0c5e6251592371e", func := "stook/stooklaw01.LebReads", spec := "lebReads", apart := false, narrowed := true }
def LebReadsUptoSaid : Prop := lebReadsUptoRow.holds Try.pinned (OpenSpec.upto lebReadsSpec)

/-- 'stooklaw01.LebRows', WHERE WHAT IT READS IS OF BULK AT MOST 1048576: true; the input reads as it did. -/
def lebRowsUptoRow : OpenClaim := { program := "ytheiffjnddhcoaa", sum := "e4d014942c59aa3f08c93ddb4c81576ec4fb8b2d6fe58aa1b0c5e6251592371e", func := "stook/stooklaw01.LebRows", spec := "lebRows", recurses := true, apart := false, narrowed := true }
def LebRowsUptoSaid : Prop := lebRowsUptoRow.holds Try.pinned (OpenSpec.upto lebRowsSpec)

/-- 'stooklaw01.LebLists', WHERE WHAT IT READS IS OF BULK AT MOST 1048576: true; the input reads as it did. -/
def lebListsUptoRow : OpenClaim := { program := "ytheiffjnddhcoaa", sum := "e4d014942c59aa3f08c93ddb4c81576ec4fb8b2d6fe58aa1b0c5e6251592371e", func := "stook/stooklaw01.LebLists", spec := "lebLists", recurses := true, apart := false, narrowed := true }
def LebListsUptoSaid : Prop := lebListsUptoRow.holds Try.pinned (OpenSpec.upto lebListsSpec)

/-- 'stooklaw01.LebBack', WHERE WHAT IT READS IS OF BULK AT MOST 1048576: true; the input reads as it did. -/
def lebBackUptoRow : OpenClaim := { program := "ytheiffjnddhcoaa", sum := "e4d014942c59aa3f08c93ddb4c81576ec4fb8b2d6fe58aa1b0c5e6251592371e", func := "stook/stooklaw01.LebBack", spec := "lebBack", apart := false, narrowed := true }
def LebBackUptoSaid : Prop := lebBackUptoRow.holds Try.pinned (OpenSpec.upto lebBackSpec)

/-- 'stooklaw01.LebRowsBack', WHERE WHAT IT READS IS OF BULK AT MOST 1048576: true; the input reads as it did. -/
def lebRowsBackUptoRow : OpenClaim := { program := "ytheiffjnddhcoaa", sum := "e4d014942c59aa3f08c93ddb4c81576ec4fb8b2d6fe58aa1b0c5e6251592371e", func := "stook/stooklaw01.LebRowsBack", spec := "lebRowsBack", apart := false, narrowed := true }
def LebRowsBackUptoSaid : Prop := lebRowsBackUptoRow.holds Try.pinned (OpenSpec.upto lebRowsBackSpec)

/-- 'stooklaw01.LebOne', WHERE WHAT IT READS IS OF BULK AT MOST 1048576: true; the input reads as it did. -/
def lebOneUptoRow : OpenClaim := { program := "ytheiffjnddhcoaa", sum := "e4d014942c59aa3f08c93ddb4c81576ec4fb8b2d6fe58aa1b0c5e6251592371e", func := "stook/stooklaw01.LebOne", spec := "lebOne", apart := false, narrowed := true }
def LebOneUptoSaid : Prop := lebOneUptoRow.holds Try.pinned (OpenSpec.upto lebOneSpec)

/-- 'stooklaw01.LebFree', WHERE WHAT IT READS IS OF BULK AT MOST 1048576: true; the input reads as it did. -/
def lebFreeUptoRow : OpenClaim := { program := "ytheiffjnddhcoaa", sum := "e4d014942c59aa3f08c93ddb4c81576ec4fb8b2d6fe58aa1b0c5e6251592371e", func := "stook/stooklaw01.LebFree", spec := "lebFree", apart := false, narrowed := true }
def LebFreeUptoSaid : Prop := lebFreeUptoRow.holds Try.pinned (OpenSpec.upto lebFreeSpec)

/-- 'stooklaw01.LebFresh', WHERE WHAT IT READS IS OF BULK AT MOST 1048576: true; the input reads as it did. -/
def lebFreshUptoRow : OpenClaim := { program := "ytheiffjnddhcoaa", sum := "e4d014942c59aa3f08c93ddb4c81576ec4fb8b2d6fe58aa1b0c5e6251592371e", func := "stook/stooklaw01.LebFresh", spec := "lebFresh", recurses := true, apart := false, narrowed := true }
def LebFreshUptoSaid : Prop := lebFreshUptoRow.holds Try.pinned (OpenSpec.upto lebFreshSpec)

/-- 'stooklaw01.LebLens', WHERE WHAT IT READS IS OF BULK AT MOST 1048576: true; the input reads as it did. -/
def lebLensUptoRow : OpenClaim := { program := "ytheiffjnddhcoaa", sum := "e4d014942c59aa3f08c93ddb4c81576ec4fb8b2d6fe58aa1b0c5e6251592371e", func := "stook/stooklaw01.LebLens", spec := "lebLens", apart := false, narrowed := true }
def LebLensUptoSaid : Prop := lebLensUptoRow.holds Try.pinned (OpenSpec.upto lebLensSpec)

/-- 'stooklaw01.LebRowOne', WHERE WHAT IT READS IS OF BULK AT MOST 1048576: true; the input reads as it did. -/
def lebRowOneUptoRow : OpenClaim := { program := "ytheiffjnddhcoaa", sum := "e4d014942c59aa3f08c93ddb4c81576ec4fb8b2d6fe58aa1b0c5e6251592371e", func := "stook/stooklaw01.LebRowOne", spec := "lebRowOne", apart := false, narrowed := true }
def LebRowOneUptoSaid : Prop := lebRowOneUptoRow.holds Try.pinned (OpenSpec.upto lebRowOneSpec)

end Rows
end Go.Proofs.Ytheiffjnddhcoaa
