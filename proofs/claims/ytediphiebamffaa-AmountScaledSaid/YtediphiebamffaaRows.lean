/-
  No cell of these rows narrows 'for every input' (looked for: loops, veiled, ifaces, maps, wideKeys, modest, calm, conditions, laid).
  DERIVED. THE GIVEN ROWS OF THIS SEAT. 9 by the template 'for every input the law returns true; each argument reads behind the call as it read before'; 0 by the template 'total and deterministic' (their statements: YtediphiebamffaaTotals.lean).
  GIVEN WITH THE SEED: the statements are not yours to turn. If you find one false, say at which input.
  Laid BY PROGRAM, IN A SANDBOX (cutbox-rows.mjs): the forced cells as the released guide's own fill.sh prints them over the translation 79bf2f8b2577dda8… (all of the seat's roots in one cut). By AI agents, Wed Nov 11 2026. No macro, syntax, notation, axiom, sorry.
-/
import Derived.Test.YtediphiebamffaaChecked
import GoSem.Claim
import GoSem.ClaimJoined
import GoSem.ClaimMapViews
import Derived.JoinedTies
import Derived.KernelRfl
namespace Go.Proofs.Ytediphiebamffaa
/- THE CELL 'sum', in the pinned program and in every row, IS THE sha256 OF THE DUMP (.gsa) THAT YtediphiebamffaaProg.lean LOADS. Nothing in Lean hashes anything: it is a label: what it is worth is what the hold of that sum in a sandbox is worth. -/
noncomputable def Try.pinned : Pinned := { name := "ytediphiebamffaa", sum := "79bf2f8b2577dda8b35b949f74e8a1550457d725c23988a99e574f352d6d018d", checked := Try.checked }
namespace Rows
def none {H : Type} : Left H := { results := [], args := [] }

/-- 'royaltylaw03.AmountMulDivMatchesReference': WHATEVER THE INPUT: true; the input reads as it did. -/
def amountMulDivMatchesReferenceSpec : ChangeSpec := { name := "amountMulDivMatchesReference", fn := fun _ => fun
  | [d1, d2, d3] => { results := [.lit (.bool true)], args := [d1, d2, d3] }
  | _ => none }
def amountMulDivMatchesReferenceRow : OpenClaim := { program := "ytediphiebamffaa", sum := "79bf2f8b2577dda8b35b949f74e8a1550457d725c23988a99e574f352d6d018d", func := "royalty/royaltylaw03.AmountMulDivMatchesReference", spec := "amountMulDivMatchesReference", unfollowed := true, recurses := true, named := ["math/bits.divideError", "math/bits.overflowError"], apart := false }
def AmountMulDivMatchesReferenceSaid : Prop := amountMulDivMatchesReferenceRow.holds Try.pinned (OpenSpec.ofChange amountMulDivMatchesReferenceSpec)

/-- ITS FALSE NEIGHBOUR: 'it returns false'. Refute it at one input. -/
def amountMulDivMatchesReferenceWrong : ChangeSpec := { name := "amountMulDivMatchesReference", fn := fun _ => fun
  | [d1, d2, d3] => { results := [.lit (.bool false)], args := [d1, d2, d3] }
  | _ => none }
def AmountMulDivMatchesReferenceWrongFalsely : Prop := amountMulDivMatchesReferenceRow.holds Try.pinned (OpenSpec.ofChange amountMulDivMatchesReferenceWrong)

/-- 'royaltylaw03.AmountApportionMatchesReference': WHATEVER THE INPUT: true; the input reads as it did. -/
def amountApportionMatchesReferenceSpec : ChangeSpec := { name := "amountApportionMatchesReference", fn := fun _ => fun
  | [d1, d2] => { results := [.lit (.bool true)], args := [d1, d2] }
  | _ => none }
def amountApportionMatchesReferenceRow : OpenClaim := { program := "ytediphiebamffaa", sum := "79bf2f8b2577dda8b35b949f74e8a1550457d725c23988a99e574f352d6d018d", func := "royalty/royaltylaw03.AmountApportionMatchesReference", spec := "amountApportionMatchesReference", unfollowed := true, recurses := true, named := ["math/bits.divideError", "math/bits.overflowError"], apart := false }
def AmountApportionMatchesReferenceSaid : Prop := amountApportionMatchesReferenceRow.holds Try.pinned (OpenSpec.ofChange amountApportionMatchesReferenceSpec)

/-- ITS FALSE NEIGHBOUR: 'it returns false'. Refute it at one input. -/
def amountApportionMatchesReferenceWrong : ChangeSpec := { name := "amountApportionMatchesReference", fn := fun _ => fun
  | [d1, d2] => { results := [.lit (.bool false)], args := [d1, d2] }
  | _ => none }
def AmountApportionMatchesReferenceWrongFalsely : Prop := amountApportionMatchesReferenceRow.holds Try.pinned (OpenSpec.ofChange amountApportionMatchesReferenceWrong)

/-- 'royaltylaw03.AmountExact': WHATEVER THE INPUT: true; the input reads as it did. -/
def amountExactSpec : ChangeSpec := { name := "amountExact", fn := fun _ => fun
  | [d1, d2, d3, d4] => { results := [.lit (.bool true)], args := [d1, d2, d3, d4] }
  | _ => none }
def amountExactRow : OpenClaim := { program := "ytediphiebamffaa", sum := "79bf2f8b2577dda8b35b949f74e8a1550457d725c23988a99e574f352d6d018d", func := "royalty/royaltylaw03.AmountExact", spec := "amountExact", unfollowed := true, recurses := true, named := ["math/bits.divideError", "math/bits.overflowError"], apart := false }
def AmountExactSaid : Prop := amountExactRow.holds Try.pinned (OpenSpec.ofChange amountExactSpec)

/-- ITS FALSE NEIGHBOUR: 'it returns false'. Refute it at one input. -/
def amountExactWrong : ChangeSpec := { name := "amountExact", fn := fun _ => fun
  | [d1, d2, d3, d4] => { results := [.lit (.bool false)], args := [d1, d2, d3, d4] }
  | _ => none }
def AmountExactWrongFalsely : Prop := amountExactRow.holds Try.pinned (OpenSpec.ofChange amountExactWrong)

/-- 'royaltylaw03.AmountOrdered': WHATEVER THE INPUT: true; the input reads as it did. -/
def amountOrderedSpec : ChangeSpec := { name := "amountOrdered", fn := fun _ => fun
  | [d1, d2, d3, d4, d5] => { results := [.lit (.bool true)], args := [d1, d2, d3, d4, d5] }
  | _ => none }
def amountOrderedRow : OpenClaim := { program := "ytediphiebamffaa", sum := "79bf2f8b2577dda8b35b949f74e8a1550457d725c23988a99e574f352d6d018d", func := "royalty/royaltylaw03.AmountOrdered", spec := "amountOrdered", unfollowed := true, recurses := true, named := ["math/bits.divideError", "math/bits.overflowError"], apart := false }
def AmountOrderedSaid : Prop := amountOrderedRow.holds Try.pinned (OpenSpec.ofChange amountOrderedSpec)

/-- ITS FALSE NEIGHBOUR: 'it returns false'. Refute it at one input. -/
def amountOrderedWrong : ChangeSpec := { name := "amountOrdered", fn := fun _ => fun
  | [d1, d2, d3, d4, d5] => { results := [.lit (.bool false)], args := [d1, d2, d3, d4, d5] }
  | _ => none }
def AmountOrderedWrongFalsely : Prop := amountOrderedRow.holds Try.pinned (OpenSpec.ofChange amountOrderedWrong)

/-- 'royaltylaw03.AmountNothingLost': WHATEVER THE INPUT: true; the input reads as it did. -/
def amountNothingLostSpec : ChangeSpec := { name := "amountNothingLost", fn := fun _ => fun
  | [d1, d2] => { results := [.lit (.bool true)], args := [d1, d2] }
  | _ => none }
def amountNothingLostRow : OpenClaim := { program := "ytediphiebamffaa", sum := "79bf2f8b2577dda8b35b949f74e8a1550457d725c23988a99e574f352d6d018d", func := "royalty/royaltylaw03.AmountNothingLost", spec := "amountNothingLost", unfollowed := true, recurses := true, named := ["math/bits.divideError", "math/bits.overflowError"], apart := false }
def AmountNothingLostSaid : Prop := amountNothingLostRow.holds Try.pinned (OpenSpec.ofChange amountNothingLostSpec)

/-- ITS FALSE NEIGHBOUR: 'it returns false'. Refute it at one input. -/
def amountNothingLostWrong : ChangeSpec := { name := "amountNothingLost", fn := fun _ => fun
  | [d1, d2] => { results := [.lit (.bool false)], args := [d1, d2] }
  | _ => none }
def AmountNothingLostWrongFalsely : Prop := amountNothingLostRow.holds Try.pinned (OpenSpec.ofChange amountNothingLostWrong)

/-- 'royaltylaw03.AmountFair': WHATEVER THE INPUT: true; the input reads as it did. -/
def amountFairSpec : ChangeSpec := { name := "amountFair", fn := fun _ => fun
  | [d1, d2] => { results := [.lit (.bool true)], args := [d1, d2] }
  | _ => none }
def amountFairRow : OpenClaim := { program := "ytediphiebamffaa", sum := "79bf2f8b2577dda8b35b949f74e8a1550457d725c23988a99e574f352d6d018d", func := "royalty/royaltylaw03.AmountFair", spec := "amountFair", unfollowed := true, recurses := true, named := ["math/bits.divideError", "math/bits.overflowError"], apart := false }
def AmountFairSaid : Prop := amountFairRow.holds Try.pinned (OpenSpec.ofChange amountFairSpec)

/-- ITS FALSE NEIGHBOUR: 'it returns false'. Refute it at one input. -/
def amountFairWrong : ChangeSpec := { name := "amountFair", fn := fun _ => fun
  | [d1, d2] => { results := [.lit (.bool false)], args := [d1, d2] }
  | _ => none }
def AmountFairWrongFalsely : Prop := amountFairRow.holds Try.pinned (OpenSpec.ofChange amountFairWrong)

/-- 'royaltylaw03.AmountScaled': WHATEVER THE INPUT: true; the input reads as it did. -/
def amountScaledSpec : ChangeSpec := { name := "amountScaled", fn := fun _ => fun
  | [d1, d2, d3, d4] => { results := [.lit (.bool true)], args := [d1, d2, d3, d4] }
  | _ => none }
def amountScaledRow : OpenClaim := { program := "ytediphiebamffaa", sum := "79bf2f8b2577dda8b35b949f74e8a1550457d725c23988a99e574f352d6d018d", func := "royalty/royaltylaw03.AmountScaled", spec := "amountScaled", unfollowed := true, recurses := true, named := ["math/bits.divideError", "math/bits.overflowError"], apart := false }
def AmountScaledSaid : Prop := amountScaledRow.holds Try.pinned (OpenSpec.ofChange amountScaledSpec)

/-- ITS FALSE NEIGHBOUR: 'it returns false'. Refute it at one input. -/
def amountScaledWrong : ChangeSpec := { name := "amountScaled", fn := fun _ => fun
  | [d1, d2, d3, d4] => { results := [.lit (.bool false)], args := [d1, d2, d3, d4] }
  | _ => none }
def AmountScaledWrongFalsely : Prop := amountScaledRow.holds Try.pinned (OpenSpec.ofChange amountScaledWrong)

/-- 'royaltylaw03.AmountPercent': WHATEVER THE INPUT: true; the input reads as it did. -/
def amountPercentSpec : ChangeSpec := { name := "amountPercent", fn := fun _ => fun
  | [d1, d2, d3, d4] => { results := [.lit (.bool true)], args := [d1, d2, d3, d4] }
  | _ => none }
def amountPercentRow : OpenClaim := { program := "ytediphiebamffaa", sum := "79bf2f8b2577dda8b35b949f74e8a1550457d725c23988a99e574f352d6d018d", func := "royalty/royaltylaw03.AmountPercent", spec := "amountPercent", unfollowed := true, recurses := true, named := ["math/bits.divideError", "math/bits.overflowError"], apart := false }
def AmountPercentSaid : Prop := amountPercentRow.holds Try.pinned (OpenSpec.ofChange amountPercentSpec)

/-- ITS FALSE NEIGHBOUR: 'it returns false'. Refute it at one input. -/
def amountPercentWrong : ChangeSpec := { name := "amountPercent", fn := fun _ => fun
  | [d1, d2, d3, d4] => { results := [.lit (.bool false)], args := [d1, d2, d3, d4] }
  | _ => none }
def AmountPercentWrongFalsely : Prop := amountPercentRow.holds Try.pinned (OpenSpec.ofChange amountPercentWrong)

/-- 'royaltylaw03.AmountCents': WHATEVER THE INPUT: true; the input reads as it did. -/
def amountCentsSpec : ChangeSpec := { name := "amountCents", fn := fun _ => fun
  | [d1, d2, d3] => { results := [.lit (.bool true)], args := [d1, d2, d3] }
  | _ => none }
def amountCentsRow : OpenClaim := { program := "ytediphiebamffaa", sum := "79bf2f8b2577dda8b35b949f74e8a1550457d725c23988a99e574f352d6d018d", func := "royalty/royaltylaw03.AmountCents", spec := "amountCents", unfollowed := true, recurses := true, named := ["math/bits.divideError", "math/bits.overflowError"], apart := false }
def AmountCentsSaid : Prop := amountCentsRow.holds Try.pinned (OpenSpec.ofChange amountCentsSpec)

/-- ITS FALSE NEIGHBOUR: 'it returns false'. Refute it at one input. -/
def amountCentsWrong : ChangeSpec := { name := "amountCents", fn := fun _ => fun
  | [d1, d2, d3] => { results := [.lit (.bool false)], args := [d1, d2, d3] }
  | _ => none }
def AmountCentsWrongFalsely : Prop := amountCentsRow.holds Try.pinned (OpenSpec.ofChange amountCentsWrong)

/- THE SECOND FORM. 'bulk': how many values and letters a reading holds, each counted each time it is reached (what is shared counts as often as it is met; a slice's spare places count too). A statement '..UptoSaid' is the law's where the arguments, and the package variables that the reading takes, are together of bulk at most 1048576: NARROWER than '..Said'. Prove '..Said' where nothing that the law and all that it calls make is longer than what came in: it says more and counts as full. Else prove '..UptoSaid'. A law counts once. -/
mutual
def uptoBulk {H : Type} : DataW H → Nat
  | .lit (.string bytes) => bytes.length + 1
  | .lit _ => 1
  | .nil => 1
  | .ptr d => uptoBulk d + 1
  | .slice elems spare => uptoBulkAll elems + uptoBulkAll spare + 1
  | .agg parts => uptoBulkAll parts + 1
  | .iface _ d => uptoBulk d + 1
  | .map entries => uptoBulkEntries entries + 1
  | .held _ => 1
def uptoBulkAll {H : Type} : List (DataW H) → Nat
  | [] => 0
  | d :: r => uptoBulk d + uptoBulkAll r
def uptoBulkEntries {H : Type} : List (Lit × DataW H) → Nat
  | [] => 0
  | x :: r => uptoBulkEntry x + uptoBulkEntries r
def uptoBulkEntry {H : Type} : Lit × DataW H → Nat
  | (.string bytes, d) => bytes.length + uptoBulk d + 1
  | (_, d) => uptoBulk d + 1
 end
def uptoSmall : (H : Type) → List (DataW H) → Bool := fun _ ds => decide (uptoBulkAll ds ≤ 1048576)
def OpenSpec.upto (s : _root_.Go.ChangeSpec) : _root_.Go.OpenSpec := { _root_.Go.OpenSpec.ofChange s with cond := some uptoSmall }

/-- 'royaltylaw03.AmountMulDivMatchesReference', WHERE WHAT IT READS IS OF BULK AT MOST 1048576: true; the input reads as it did. -/
def amountMulDivMatchesReferenceUptoRow : OpenClaim := { program := "ytediphiebamffaa", sum := "79bf2f8b2577dda8b35b949f74e8a1550457d725c23988a99e574f352d6d018d", func := "royalty/royaltylaw03.AmountMulDivMatchesReference", spec := "amountMulDivMatchesReference", unfollowed := true, recurses := true, named := ["math/bits.divideError", "math/bits.overflowError"], apart := false, narrowed := true }
def AmountMulDivMatchesReferenceUptoSaid : Prop := amountMulDivMatchesReferenceUptoRow.holds Try.pinned (OpenSpec.upto amountMulDivMatchesReferenceSpec)

/-- 'royaltylaw03.AmountApportionMatchesReference', WHERE WHAT IT READS IS OF BULK AT MOST 1048576: true; the input reads as it did. -/
def amountApportionMatchesReferenceUptoRow : OpenClaim := { program := "ytediphiebamffaa", sum := "79bf2f8b2577dda8b35b949f74e8a1550457d725c23988a99e574f352d6d018d", func := "royalty/royaltylaw03.AmountApportionMatchesReference", spec := "amountApportionMatchesReference", unfollowed := true, recurses := true, named := ["math/bits.divideError", "math/bits.overflowError"], apart := false, narrowed := true }
def AmountApportionMatchesReferenceUptoSaid : Prop := amountApportionMatchesReferenceUptoRow.holds Try.pinned (OpenSpec.upto amountApportionMatchesReferenceSpec)

/-- 'royaltylaw03.AmountExact', WHERE WHAT IT READS IS OF BULK AT MOST 1048576: true; the input reads as it did. -/
def amountExactUptoRow : OpenClaim := { program := "ytediphiebamffaa", sum := "79bf2f8b2577dda8b35b949f74e8a1550457d725c23988a99e574f352d6d018d", func := "royalty/royaltylaw03.AmountExact", spec := "amountExact", unfollowed := true, recurses := true, named := ["math/bits.divideError", "math/bits.overflowError"], apart := false, narrowed := true }
def AmountExactUptoSaid : Prop := amountExactUptoRow.holds Try.pinned (OpenSpec.upto amountExactSpec)

/-- 'royaltylaw03.AmountOrdered', WHERE WHAT IT READS IS OF BULK AT MOST 1048576: true; the input reads as it did. -/
def amountOrderedUptoRow : OpenClaim := { program := "ytediphiebamffaa", sum := "79bf2f8b2577dda8b35b949f74e8a1550457d725c23988a99e574f352d6d018d", func := "royalty/royaltylaw03.AmountOrdered", spec := "amountOrdered", unfollowed := true, recurses := true, named := ["math/bits.divideError", "math/bits.overflowError"], apart := false, narrowed := true }
def AmountOrderedUptoSaid : Prop := amountOrderedUptoRow.holds Try.pinned (OpenSpec.upto amountOrderedSpec)

/-- 'royaltylaw03.AmountNothingLost', WHERE WHAT IT READS IS OF BULK AT MOST 1048576: true; the input reads as it did. -/
def amountNothingLostUptoRow : OpenClaim := { program := "ytediphiebamffaa", sum := "79bf2f8b2577dda8b35b949f74e8a1550457d725c23988a99e574f352d6d018d", func := "royalty/royaltylaw03.AmountNothingLost", spec := "amountNothingLost", unfollowed := true, recurses := true, named := ["math/bits.divideError", "math/bits.overflowError"], apart := false, narrowed := true }
def AmountNothingLostUptoSaid : Prop := amountNothingLostUptoRow.holds Try.pinned (OpenSpec.upto amountNothingLostSpec)

/-- 'royaltylaw03.AmountFair', WHERE WHAT IT READS IS OF BULK AT MOST 1048576: true; the input reads as it did. -/
def amountFairUptoRow : OpenClaim := { program := "ytediphiebamffaa", sum := "79bf2f8b2577dda8b35b949f74e8a1550457d725c23988a99e574f352d6d018d", func := "royalty/royaltylaw03.AmountFair", spec := "amountFair", unfollowed := true, recurses := true, named := ["math/bits.divideError", "math/bits.overflowError"], apart := false, narrowed := true }
def AmountFairUptoSaid : Prop := amountFairUptoRow.holds Try.pinned (OpenSpec.upto amountFairSpec)

/-- 'royaltylaw03.AmountScaled', WHERE WHAT IT READS IS OF BULK AT MOST 1048576: true; the input reads as it did. -/
def amountScaledUptoRow : OpenClaim := { program := "ytediphiebamffaa", sum := "79bf2f8b2577dda8b35b949f74e8a1550457d725c23988a99e574f352d6d018d", func := "royalty/royaltylaw03.AmountScaled", spec := "amountScaled", unfollowed := true, recurses := true, named := ["math/bits.divideError", "math/bits.overflowError"], apart := false, narrowed := true }
def AmountScaledUptoSaid : Prop := amountScaledUptoRow.holds Try.pinned (OpenSpec.upto amountScaledSpec)

/-- 'royaltylaw03.AmountPercent', WHERE WHAT IT READS IS OF BULK AT MOST 1048576: true; the input reads as it did. -/
def amountPercentUptoRow : OpenClaim := { program := "ytediphiebamffaa", sum := "79bf2f8b2577dda8b35b949f74e8a1550457d725c23988a99e574f352d6d018d", func := "royalty/royaltylaw03.AmountPercent", spec := "amountPercent", unfollowed := true, recurses := true, named := ["math/bits.divideError", "math/bits.overflowError"], apart := false, narrowed := true }
def AmountPercentUptoSaid : Prop := amountPercentUptoRow.holds Try.pinned (OpenSpec.upto amountPercentSpec)

/-- 'royaltylaw03.AmountCents', WHERE WHAT IT READS IS OF BULK AT MOST 1048576: true; the input reads as it did. -/
def amountCentsUptoRow : OpenClaim := { program := "ytediphiebamffaa", sum := "79bf2f8b2577dda8b35b949f74e8a1550457d725c23988a99e574f352d6d018d", func := "royalty/royaltylaw03.AmountCents", spec := "amountCents", unfollowed := true, recurses := true, named := ["math/bits.divideError", "math/bits.overflowError"], apart := false, narrowed := true }
def AmountCentsUptoSaid : Prop := amountCentsUptoRow.holds Try.pinned (OpenSpec.upto amountCentsSpec)

end Rows
end Go.Proofs.Ytediphiebamffaa
