/-
  No cell of these rows narrows 'for every input' (looked for: loops, veiled, ifaces, maps, wideKeys, modest, calm, conditions, laid).
  DERIVED. THE GIVEN ROWS OF THIS SEAT. 6 by the template 'for every input the law returns true; each argument reads behind the call as it read before'; 0 by the template 'total and deterministic' (their statements: YthdkflmkcoabaaaTotals.lean).
  GIVEN WITH THE SEED: the statements are not yours to turn. If you find one false, say at which input.
  Laid BY PROGRAM, IN A SANDBOX (cutbox-rows.mjs): the forced cells as the released guide's own fill.sh prints them over the translation 666e1628441fc167… (all of the seat's roots in one cut). By AI agents, Wed Nov 11 2026. No macro, syntax, notation, axiom, sorry.
-/
import Derived.Test.YthdkflmkcoabaaaChecked
import GoSem.Claim
import GoSem.ClaimJoined
import GoSem.ClaimMapViews
import Derived.JoinedTies
import Derived.KernelRfl
namespace Go.Proofs.Ythdkflmkcoabaaa
/- THE CELL 'sum', in the pinned program and in every row, IS THE sha256 OF THE DUMP (.gsa) THAT YthdkflmkcoabaaaProg.lean LOADS. Nothing in Lean hashes anything: it is a label: what it is worth is what the hold of that sum in a sandbox is worth. -/
noncomputable def Try.pinned : Pinned := { name := "ythdkflmkcoabaaa", sum := "666e1628441fc1674b63cec3ccce6d7e0157c2facaaed8a2fedf81215e8f6469", checked := Try.checked }
namespace Rows
def none {H : Type} : Left H := { results := [], args := [] }

/-- 'auspicelaw07.ShelfTexts': WHATEVER THE INPUT: true; the input reads as it did. -/
def shelfTextsSpec : ChangeSpec := { name := "shelfTexts", fn := fun _ => fun
  | [d1, d2] => { results := [.lit (.bool true)], args := [d1, d2] }
  | _ => none }
def shelfTextsRow : OpenClaim := { program := "ythdkflmkcoabaaa", sum := "666e1628441fc1674b63cec3ccce6d7e0157c2facaaed8a2fedf81215e8f6469", func := "auspice/auspicelaw07.ShelfTexts", spec := "shelfTexts", unfollowed := true, recurses := true, apart := false }
def ShelfTextsSaid : Prop := shelfTextsRow.holds Try.pinned (OpenSpec.ofChange shelfTextsSpec)

/-- ITS FALSE NEIGHBOUR: 'it returns false'. Refute it at one input. -/
def shelfTextsWrong : ChangeSpec := { name := "shelfTexts", fn := fun _ => fun
  | [d1, d2] => { results := [.lit (.bool false)], args := [d1, d2] }
  | _ => none }
def ShelfTextsWrongFalsely : Prop := shelfTextsRow.holds Try.pinned (OpenSpec.ofChange shelfTextsWrong)

/-- 'auspicelaw07.ShelfReads': WHATEVER THE INPUT: true; the input reads as it did. -/
def shelfReadsSpec : ChangeSpec := { name := "shelfReads", fn := fun _ => fun
  | [d] => { results := [.lit (.bool true)], args := [d] }
  | _ => none }
def shelfReadsRow : OpenClaim := { program := "ythdkflmkcoabaaa", sum := "666e1628441fc1674b63cec3ccce6d7e0157c2facaaed8a2fedf81215e8f6469", func := "auspice/auspicelaw07.ShelfReads", spec := "shelfReads", unfollowed := true, recurses := true, apart := false }
def ShelfReadsSaid : Prop := shelfReadsRow.holds Try.pinned (OpenSpec.ofChange shelfReadsSpec)

/-- ITS FALSE NEIGHBOUR: 'it returns false'. Refute it at one input. -/
def shelfReadsWrong : ChangeSpec := { name := "shelfReads", fn := fun _ => fun
  | [d] => { results := [.lit (.bool false)], args := [d] }
  | _ => none }
def ShelfReadsWrongFalsely : Prop := shelfReadsRow.holds Try.pinned (OpenSpec.ofChange shelfReadsWrong)

/-- 'auspicelaw07.ShelfBack': WHATEVER THE INPUT: true; the input reads as it did. -/
def shelfBackSpec : ChangeSpec := { name := "shelfBack", fn := fun _ => fun
  | [d1, d2, d3] => { results := [.lit (.bool true)], args := [d1, d2, d3] }
  | _ => none }
def shelfBackRow : OpenClaim := { program := "ythdkflmkcoabaaa", sum := "666e1628441fc1674b63cec3ccce6d7e0157c2facaaed8a2fedf81215e8f6469", func := "auspice/auspicelaw07.ShelfBack", spec := "shelfBack", unfollowed := true, recurses := true, apart := false }
def ShelfBackSaid : Prop := shelfBackRow.holds Try.pinned (OpenSpec.ofChange shelfBackSpec)

/-- ITS FALSE NEIGHBOUR: 'it returns false'. Refute it at one input. -/
def shelfBackWrong : ChangeSpec := { name := "shelfBack", fn := fun _ => fun
  | [d1, d2, d3] => { results := [.lit (.bool false)], args := [d1, d2, d3] }
  | _ => none }
def ShelfBackWrongFalsely : Prop := shelfBackRow.holds Try.pinned (OpenSpec.ofChange shelfBackWrong)

/-- 'auspicelaw07.ShelfFalls': WHATEVER THE INPUT: true; the input reads as it did. -/
def shelfFallsSpec : ChangeSpec := { name := "shelfFalls", fn := fun _ => fun
  | [d1, d2, d3] => { results := [.lit (.bool true)], args := [d1, d2, d3] }
  | _ => none }
def shelfFallsRow : OpenClaim := { program := "ythdkflmkcoabaaa", sum := "666e1628441fc1674b63cec3ccce6d7e0157c2facaaed8a2fedf81215e8f6469", func := "auspice/auspicelaw07.ShelfFalls", spec := "shelfFalls", unfollowed := true, recurses := true, apart := false }
def ShelfFallsSaid : Prop := shelfFallsRow.holds Try.pinned (OpenSpec.ofChange shelfFallsSpec)

/-- ITS FALSE NEIGHBOUR: 'it returns false'. Refute it at one input. -/
def shelfFallsWrong : ChangeSpec := { name := "shelfFalls", fn := fun _ => fun
  | [d1, d2, d3] => { results := [.lit (.bool false)], args := [d1, d2, d3] }
  | _ => none }
def ShelfFallsWrongFalsely : Prop := shelfFallsRow.holds Try.pinned (OpenSpec.ofChange shelfFallsWrong)

/-- 'auspicelaw07.ShelfFull': WHATEVER THE INPUT: true; the input reads as it did. -/
def shelfFullSpec : ChangeSpec := { name := "shelfFull", fn := fun _ => fun
  | [d1, d2] => { results := [.lit (.bool true)], args := [d1, d2] }
  | _ => none }
def shelfFullRow : OpenClaim := { program := "ythdkflmkcoabaaa", sum := "666e1628441fc1674b63cec3ccce6d7e0157c2facaaed8a2fedf81215e8f6469", func := "auspice/auspicelaw07.ShelfFull", spec := "shelfFull", unfollowed := true, recurses := true, apart := false }
def ShelfFullSaid : Prop := shelfFullRow.holds Try.pinned (OpenSpec.ofChange shelfFullSpec)

/-- ITS FALSE NEIGHBOUR: 'it returns false'. Refute it at one input. -/
def shelfFullWrong : ChangeSpec := { name := "shelfFull", fn := fun _ => fun
  | [d1, d2] => { results := [.lit (.bool false)], args := [d1, d2] }
  | _ => none }
def ShelfFullWrongFalsely : Prop := shelfFullRow.holds Try.pinned (OpenSpec.ofChange shelfFullWrong)

/-- 'auspicelaw07.ShelfNil': WHATEVER THE INPUT: true; the input reads as it did. -/
def shelfNilSpec : ChangeSpec := { name := "shelfNil", fn := fun _ => fun
  | [d1, d2] => { results := [.lit (.bool true)], args := [d1, d2] }
  | _ => none }
def shelfNilRow : OpenClaim := { program := "ythdkflmkcoabaaa", sum := "666e1628441fc1674b63cec3ccce6d7e0157c2facaaed8a2fedf81215e8f6469", func := "auspice/auspicelaw07.ShelfNil", spec := "shelfNil", unfollowed := true, recurses := true, apart := false }
def ShelfNilSaid : Prop := shelfNilRow.holds Try.pinned (OpenSpec.ofChange shelfNilSpec)

/-- ITS FALSE NEIGHBOUR: 'it returns false'. Refute it at one input. -/
def shelfNilWrong : ChangeSpec := { name := "shelfNil", fn := fun _ => fun
  | [d1, d2] => { results := [.lit (.bool false)], args := [d1, d2] }
  | _ => none }
def ShelfNilWrongFalsely : Prop := shelfNilRow.holds Try.pinned (OpenSpec.ofChange shelfNilWrong)

/- THE SECOND FORM. 'bulk': how many values and letters a reading holds, each counted each time it is reached (what is shared counts as often as it is met; a slice's spare places count too). A statement '..UptoSaid' is the law's where the arguments, and the package variables that the reading takes, are together of bulk at most 1048576: NARROWER than '..Said'. Prove '..Said' where nothing that the law and all that it calls make is longer than what came in: it says more and counts as full. Else prove '..UptoSaid'. A law counts once. -/
mutual
def uptoBulk {H : Type} : DataW H → Nat
  | .lit (.string bytes) => bytes.length + 1
  | .lit _ => 1
  | .nil => 1
  | .ptr d => uptoBulk d + 1
  | .slice elems spare => uptoBulkAll elems + uptoBulkAll spare + 1
  | .agg parts => uptoBulkAll parts + 1
  | .iface _ d => uptoBulk d + 1
  | .map entries => uptoBulkEntries entries + 1
  | .held _ => 1
def uptoBulkAll {H : Type} : List (DataW H) → Nat
  | [] => 0
  | d :: r => uptoBulk d + uptoBulkAll r
def uptoBulkEntries {H : Type} : List (Lit × DataW H) → Nat
  | [] => 0
  | x :: r => uptoBulkEntry x + uptoBulkEntries r
def uptoBulkEntry {H : Type} : Lit × DataW H → Nat
  | (.string bytes, d) => bytes.length + uptoBulk d + 1
  | (_, d) => uptoBulk d + 1
 end
def uptoSmall : (H : Type) → List (DataW H) → Bool := fun _ ds => decide (uptoBulkAll ds ≤ 1048576)
def OpenSpec.upto (s : _root_.Go.ChangeSpec) : _root_.Go.OpenSpec := { _root_.Go.OpenSpec.ofChange s with cond := some uptoSmall }

/-- 'auspicelaw07.ShelfTexts', WHERE WHAT IT READS IS OF BULK AT MOST 1048576: true; the input reads as it did. -/
def shelfTextsUptoRow : OpenClaim := { program := "ythdkflmkcoabaaa", sum := "666e1628441fc1674b63cec3ccce6d7e0157c2facaaed8a2fedf81215e8f6469", func := "auspice/auspicelaw07.ShelfTexts", spec := "shelfTexts", unfollowed := true, recurses := true, apart := false, narrowed := true }
def ShelfTextsUptoSaid : Prop := shelfTextsUptoRow.holds Try.pinned (OpenSpec.upto shelfTextsSpec)

/-- 'auspicelaw07.ShelfReads', WHERE WHAT IT READS IS OF BULK AT MOST 1048576: true; the input reads as it did. -/
def shelfReadsUptoRow : OpenClaim := { program := "ythdkflmkcoabaaa", sum := "666e1628441fc1674b63cec3ccce6d7e0157c2facaaed8a2fedf81215e8f6469", func := "auspice/auspicelaw07.ShelfReads", spec := "shelfReads", unfollowed := true, recurses := true, apart := false, narrowed := true }
def ShelfReadsUptoSaid : Prop := shelfReadsUptoRow.holds Try.pinned (OpenSpec.upto shelfReadsSpec)

/-- 'auspicelaw07.ShelfBack', WHERE WHAT IT READS IS OF BULK AT MOST 1048576: true; the input reads as it did. -/
def shelfBackUptoRow : OpenClaim := { program := "ythdkflmkcoabaaa", sum := "666e1628441fc1674b63cec3ccce6d7e0157c2facaaed8a2fedf81215e8f6469", func := "auspice/auspicelaw07.ShelfBack", spec := "shelfBack", unfollowed := true, recurses := true, apart := false, narrowed := true }
def ShelfBackUptoSaid : Prop := shelfBackUptoRow.holds Try.pinned (OpenSpec.upto shelfBackSpec)

/-- 'auspicelaw07.ShelfFalls', WHERE WHAT IT READS IS OF BULK AT MOST 1048576: true; the input reads as it did. -/
def shelfFallsUptoRow : OpenClaim := { program := "ythdkflmkcoabaaa", sum := "666e1628441fc1674b63cec3ccce6d7e0157c2facaaed8a2fedf81215e8f6469", func := "auspice/auspicelaw07.ShelfFalls", spec := "shelfFalls", unfollowed := true, recurses := true, apart := false, narrowed := true }
def ShelfFallsUptoSaid : Prop := shelfFallsUptoRow.holds Try.pinned (OpenSpec.upto shelfFallsSpec)

/-- 'auspicelaw07.ShelfFull', WHERE WHAT IT READS IS OF BULK AT MOST 1048576: true; the input reads as it did. -/
def shelfFullUptoRow : OpenClaim := { program := "ythdkflmkcoabaaa", sum := "666e1628441fc1674b63cec3ccce6d7e0157c2facaaed8a2fedf81215e8f6469", func := "auspice/auspicelaw07.ShelfFull", spec := "shelfFull", unfollowed := true, recurses := true, apart := false, narrowed := true }
def ShelfFullUptoSaid : Prop := shelfFullUptoRow.holds Try.pinned (OpenSpec.upto shelfFullSpec)

/-- 'auspicelaw07.ShelfNil', WHERE WHAT IT READS IS OF BULK AT MOST 1048576: true; the input reads as it did. -/
def shelfNilUptoRow : OpenClaim := { program := "ythdkflmkcoabaaa", sum := "666e1628441fc1674b63cec3ccce6d7e0157c2facaaed8a2fedf81215e8f6469", func := "auspice/auspicelaw07.ShelfNil", spec := "shelfNil", unfollowed := true, recurses := true, apart := false, narrowed := true }
def ShelfNilUptoSaid : Prop := shelfNilUptoRow.holds Try.pinned (OpenSpec.upto shelfNilSpec)

end Rows
end Go.Proofs.Ythdkflmkcoabaaa
