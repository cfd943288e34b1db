/-
  No cell of these rows narrows 'for every input' (looked for: loops, veiled, ifaces, maps, wideKeys, modest, calm, conditions, laid).
  DERIVED. THE GIVEN ROWS OF THIS SEAT. 3 by the template 'for every input the law returns true; each argument reads behind the call as it read before'; 0 by the template 'total and deterministic' (their statements: YtmcbjcbnckpfkaaGreatTotals.lean).
  GIVEN WITH THE SEED: the statements are not yours to turn. If you find one false, say at which input.
  Laid BY PROGRAM, IN A SANDBOX (cutbox-rows.mjs): the forced cells as the released guide's own fill.sh prints them over the translation 440dd7545e5c54d6… (all of the seat's roots in one cut). By AI agents, Wed Nov 11 2026. No macro, syntax, notation, axiom, sorry.
-/
import Derived.Test.YtmcbjcbnckpfkaaGreatChecked
import GoSem.Claim
import GoSem.ClaimJoined
import GoSem.ClaimMapViews
import Derived.JoinedTies
import Derived.KernelRfl
namespace Go.Proofs.YtmcbjcbnckpfkaaGreat
/- THE CELL 'sum', in the pinned program and in every row, IS THE sha256 OF THE DUMP (.gsa) THAT YtmcbjcbnckpfkaaGreatProg.lean LOADS. Nothing in Lean hashes anything: it is a label: what it is worth is what the hold of that sum in a sandbox is worth. -/
noncomputable def Tryz.pinned : Pinned := { name := "ytmcbjcbnckpfkaagreat", sum := "440dd7545e5c54d68c883e34c42b92e6524d8dbfa416041ca10e74117a61d3b5", checked := Tryz.checked }
namespace Rows
def none {H : Type} : Left H := { results := [], args := [] }

/-- 'stooklaw14.SimfsPlays': WHATEVER THE INPUT: true; the input reads as it did. -/
def simfsPlaysSpec : ChangeSpec := { name := "simfsPlays", fn := fun _ => fun
  | [d1, d2] => { results := [.lit (.bool true)], args := [d1, d2] }
  | _ => none }
def simfsPlaysRow : OpenClaim := { program := "ytmcbjcbnckpfkaagreat", sum := "440dd7545e5c54d68c883e34c42b92e6524d8dbfa416041ca10e74117a61d3b5", func := "stook/stooklaw14.SimfsPlays", spec := "simfsPlays", inPlace := ["maps.clone"], unfollowed := true, recurses := true, apart := false }
def SimfsPlaysSaid : Prop := simfsPlaysRow.holds Tryz.pinned (OpenSpec.ofChange simfsPlaysSpec)

/-- ITS FALSE NEIGHBOUR: 'it returns false'. Refute it at one input. -/
def simfsPlaysWrong : ChangeSpec := { name := "simfsPlays", fn := fun _ => fun
  | [d1, d2] => { results := [.lit (.bool false)], args := [d1, d2] }
  | _ => none }
def SimfsPlaysWrongFalsely : Prop := simfsPlaysRow.holds Tryz.pinned (OpenSpec.ofChange simfsPlaysWrong)

/-- 'stooklaw14.SimfsFails': WHATEVER THE INPUT: true; the input reads as it did. -/
def simfsFailsSpec : ChangeSpec := { name := "simfsFails", fn := fun _ => fun
  | [d1, d2, d3] => { results := [.lit (.bool true)], args := [d1, d2, d3] }
  | _ => none }
def simfsFailsRow : OpenClaim := { program := "ytmcbjcbnckpfkaagreat", sum := "440dd7545e5c54d68c883e34c42b92e6524d8dbfa416041ca10e74117a61d3b5", func := "stook/stooklaw14.SimfsFails", spec := "simfsFails", inPlace := ["maps.clone"], unfollowed := true, recurses := true, apart := false }
def SimfsFailsSaid : Prop := simfsFailsRow.holds Tryz.pinned (OpenSpec.ofChange simfsFailsSpec)

/-- ITS FALSE NEIGHBOUR: 'it returns false'. Refute it at one input. -/
def simfsFailsWrong : ChangeSpec := { name := "simfsFails", fn := fun _ => fun
  | [d1, d2, d3] => { results := [.lit (.bool false)], args := [d1, d2, d3] }
  | _ => none }
def SimfsFailsWrongFalsely : Prop := simfsFailsRow.holds Tryz.pinned (OpenSpec.ofChange simfsFailsWrong)

/-- 'stooklaw14.SimfsTwice': WHATEVER THE INPUT: true; the input reads as it did. -/
def simfsTwiceSpec : ChangeSpec := { name := "simfsTwice", fn := fun _ => fun
  | [d1, d2, d3, d4, d5] => { results := [.lit (.bool true)], args := [d1, d2, d3, d4, d5] }
  | _ => none }
def simfsTwiceRow : OpenClaim := { program := "ytmcbjcbnckpfkaagreat", sum := "440dd7545e5c54d68c883e34c42b92e6524d8dbfa416041ca10e74117a61d3b5", func := "stook/stooklaw14.SimfsTwice", spec := "simfsTwice", inPlace := ["maps.clone"], unfollowed := true, recurses := true, apart := false }
def SimfsTwiceSaid : Prop := simfsTwiceRow.holds Tryz.pinned (OpenSpec.ofChange simfsTwiceSpec)

/-- ITS FALSE NEIGHBOUR: 'it returns false'. Refute it at one input. -/
def simfsTwiceWrong : ChangeSpec := { name := "simfsTwice", fn := fun _ => fun
  | [d1, d2, d3, d4, d5] => { results := [.lit (.bool false)], args := [d1, d2, d3, d4, d5] }
  | _ => none }
def SimfsTwiceWrongFalsely : Prop := simfsTwiceRow.holds Tryz.pinned (OpenSpec.ofChange simfsTwiceWrong)

/- THE SECOND FORM. 'bulk': how many values and letters a reading holds, each counted each time it is reached (what is shared counts as often as it is met; a slice's spare places count too). A statement '..UptoSaid' is the law's where the arguments, and the package variables that the reading takes, are together of bulk at most 1048576: NARROWER than '..Said'. Prove '..Said' where nothing that the law and all that it calls make is longer than what came in: it says more and counts as full. Else prove '..UptoSaid'. A law counts once. -/
mutual
def uptoBulk {H : Type} : DataW H → Nat
  | .lit (.string bytes) => bytes.length + 1
  | .lit _ => 1
  | .nil => 1
  | .ptr d => uptoBulk d + 1
  | .slice elems spare => uptoBulkAll elems + uptoBulkAll spare + 1
  | .agg parts => uptoBulkAll parts + 1
  | .iface _ d => uptoBulk d + 1
  | .map entries => uptoBulkEntries entries + 1
  | .held _ => 1
def uptoBulkAll {H : Type} : List (DataW H) → Nat
  | [] => 0
  | d :: r => uptoBulk d + uptoBulkAll r
def uptoBulkEntries {H : Type} : List (Lit × DataW H) → Nat
  | [] => 0
  | x :: r => uptoBulkEntry x + uptoBulkEntries r
def uptoBulkEntry {H : Type} : Lit × DataW H → Nat
  | (.string bytes, d) => bytes.length + uptoBulk d + 1
  | (_, d) => uptoBulk d + 1
 end
def uptoSmall : (H : Type) → List (DataW H) → Bool := fun _ ds => decide (uptoBulkAll ds ≤ 1048576)
def OpenSpec.upto (s : _root_.Go.ChangeSpec) : _root_.Go.OpenSpec := { _root_.Go.OpenSpec.ofChange s with cond := some uptoSmall }

/-- 'stooklaw14.SimfsPlays', WHERE WHAT IT READS IS OF BULK AT MOST 1048576: true; the input reads as it did. -/
def simfsPlaysUptoRow : OpenClaim := { program := "ytmcbjcbnckpfkaagreat", sum := "440dd7545e5c54d68c883e34c42b92e6524d8dbfa416041ca10e74117a61d3b5", func := "stook/stooklaw14.SimfsPlays", spec := "simfsPlays", inPlace := ["maps.clone"], unfollowed := true, recurses := true, apart := false, narrowed := true }
def SimfsPlaysUptoSaid : Prop := simfsPlaysUptoRow.holds Tryz.pinned (OpenSpec.upto simfsPlaysSpec)

/-- 'stooklaw14.SimfsFails', WHERE WHAT IT READS IS OF BULK AT MOST 1048576: true; the input reads as it did. -/
def simfsFailsUptoRow : OpenClaim := { program := "ytmcbjcbnckpfkaagreat", sum := "440dd7545e5c54d68c883e34c42b92e6524d8dbfa416041ca10e74117a61d3b5", func := "stook/stooklaw14.SimfsFails", spec := "simfsFails", inPlace := ["maps.clone"], unfollowed := true, recurses := true, apart := false, narrowed := true }
def SimfsFailsUptoSaid : Prop := simfsFailsUptoRow.holds Tryz.pinned (OpenSpec.upto simfsFailsSpec)

/-- 'stooklaw14.SimfsTwice', WHERE WHAT IT READS IS OF BULK AT MOST 1048576: true; the input reads as it did. -/
def simfsTwiceUptoRow : OpenClaim := { program := "ytmcbjcbnckpfkaagreat", sum := "440dd7545e5c54d68c883e34c42b92e6524d8dbfa416041ca10e74117a61d3b5", func := "stook/stooklaw14.SimfsTwice", spec := "simfsTwice", inPlace := ["maps.clone"], unfollowed := true, recurses := true, apart := false, narrowed := true }
def SimfsTwiceUptoSaid : Prop := simfsTwiceUptoRow.holds Tryz.pinned (OpenSpec.upto simfsTwiceSpec)

end Rows
end Go.Proofs.YtmcbjcbnckpfkaaGreat
