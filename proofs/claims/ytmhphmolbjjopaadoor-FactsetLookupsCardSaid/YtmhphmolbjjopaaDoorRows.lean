/-
  NARROWER THAN 'FOR EVERY INPUT', by the rows' own cells (each row's printed sentence says how): FactsetOrder: laid · FactsetUnion: laid · FactsetRoot: laid · FactsetPart: laid · FactsetLookups: laid · FactsetFull: laid · FactsetNil: laid.
  DERIVED. THE GIVEN ROWS OF THIS SEAT. 7 by the template 'for every input the law returns true; each argument reads behind the call as it read before'; 0 by the template 'total and deterministic' (their statements: YtmhphmolbjjopaaDoorTotals.lean).
  GIVEN WITH THE SEED: the statements are not yours to turn. If you find one false, say at which input.
  Laid BY PROGRAM, IN A SANDBOX (cutbox-rows.mjs): the forced cells as the released guide's own fill.sh prints them over the translation d0e58bfcc7a2c792… (all of the seat's roots in one cut). By AI agents, Wed Nov 11 2026. No macro, syntax, notation, axiom, sorry.
-/
import Derived.Test.YtmhphmolbjjopaaDoorChecked
import GoSem.Claim
import GoSem.ClaimJoined
import GoSem.ClaimMapViews
import Derived.JoinedTies
import Derived.KernelRfl
namespace Go.Proofs.YtmhphmolbjjopaaDoor
/- THE CELL 'sum', in the pinned program and in every row, IS THE sha256 OF THE DUMP (.gsa) THAT YtmhphmolbjjopaaDoorProg.lean LOADS. Nothing in Lean hashes anything: it is a label: what it is worth is what the hold of that sum in a sandbox is worth. -/
noncomputable def Tryd.pinned : Pinned := { name := "ytmhphmolbjjopaadoor", sum := "d0e58bfcc7a2c792712ec2772aaa9ff4239cad10ca5c1df9a3b4e6fbd56fb17c", checked := Tryd.checked }
namespace Rows
def none {H : Type} : Left H := { results := [], args := [] }

/- WHAT THE LISTED PACKAGE-LEVEL VARIABLES READ AS WHEN THE CALL BEGINS. Each datum BY PROGRAM (the guide's laid-datum.mjs) off the statement by which the dump's own 'gosem.cut.vars' lays the variable. In a bare row this is a premise. The card (YtmhphmolbjjopaaDoorCards.lean) ties it to the program's text. -/
def laid_royalty_digest_constants {H : Type} : DataW H := .agg [.lit (.int .u32 1116352408), .lit (.int .u32 1899447441), .lit (.int .u32 3049323471), .lit (.int .u32 3921009573), .lit (.int .u32 961987163), .lit (.int .u32 1508970993), .lit (.int .u32 2453635748), .lit (.int .u32 2870763221), .lit (.int .u32 3624381080), .lit (.int .u32 310598401), .lit (.int .u32 607225278), .lit (.int .u32 1426881987), .lit (.int .u32 1925078388), .lit (.int .u32 2162078206), .lit (.int .u32 2614888103), .lit (.int .u32 3248222580), .lit (.int .u32 3835390401), .lit (.int .u32 4022224774), .lit (.int .u32 264347078), .lit (.int .u32 604807628), .lit (.int .u32 770255983), .lit (.int .u32 1249150122), .lit (.int .u32 1555081692), .lit (.int .u32 1996064986), .lit (.int .u32 2554220882), .lit (.int .u32 2821834349), .lit (.int .u32 2952996808), .lit (.int .u32 3210313671), .lit (.int .u32 3336571891), .lit (.int .u32 3584528711), .lit (.int .u32 113926993), .lit (.int .u32 338241895), .lit (.int .u32 666307205), .lit (.int .u32 773529912), .lit (.int .u32 1294757372), .lit (.int .u32 1396182291), .lit (.int .u32 1695183700), .lit (.int .u32 1986661051), .lit (.int .u32 2177026350), .lit (.int .u32 2456956037), .lit (.int .u32 2730485921), .lit (.int .u32 2820302411), .lit (.int .u32 3259730800), .lit (.int .u32 3345764771), .lit (.int .u32 3516065817), .lit (.int .u32 3600352804), .lit (.int .u32 4094571909), .lit (.int .u32 275423344), .lit (.int .u32 430227734), .lit (.int .u32 506948616), .lit (.int .u32 659060556), .lit (.int .u32 883997877), .lit (.int .u32 958139571), .lit (.int .u32 1322822218), .lit (.int .u32 1537002063), .lit (.int .u32 1747873779), .lit (.int .u32 1955562222), .lit (.int .u32 2024104815), .lit (.int .u32 2227730452), .lit (.int .u32 2361852424), .lit (.int .u32 2428436474), .lit (.int .u32 2756734187), .lit (.int .u32 3204031479), .lit (.int .u32 3329325298)]

/-- 'royaltylaw06.FactsetOrder': WHATEVER THE INPUT: true; the input reads as it did. -/
def factsetOrderSpec : ChangeSpec := { name := "factsetOrder", fn := fun _ => fun
  | [d1, d2] => { results := [.lit (.bool true)], args := [d1, d2] }
  | _ => none }
def factsetOrderRow : OpenClaim := { program := "ytmhphmolbjjopaadoor", sum := "d0e58bfcc7a2c792712ec2772aaa9ff4239cad10ca5c1df9a3b4e6fbd56fb17c", func := "royalty/royaltylaw06.FactsetOrder", spec := "factsetOrder", unfollowed := true, recurses := true, named := ["royalty/digest.constants"], apart := false, laid := [("royalty/digest.constants", laid_royalty_digest_constants)] }
def FactsetOrderSaid : Prop := factsetOrderRow.holds Tryd.pinned (OpenSpec.ofChange factsetOrderSpec)

/-- ITS FALSE NEIGHBOUR: 'it returns false'. Refute it at one input. -/
def factsetOrderWrong : ChangeSpec := { name := "factsetOrder", fn := fun _ => fun
  | [d1, d2] => { results := [.lit (.bool false)], args := [d1, d2] }
  | _ => none }
def FactsetOrderWrongFalsely : Prop := factsetOrderRow.holds Tryd.pinned (OpenSpec.ofChange factsetOrderWrong)

/-- 'royaltylaw06.FactsetUnion': WHATEVER THE INPUT: true; the input reads as it did. -/
def factsetUnionSpec : ChangeSpec := { name := "factsetUnion", fn := fun _ => fun
  | [d1, d2, d3] => { results := [.lit (.bool true)], args := [d1, d2, d3] }
  | _ => none }
def factsetUnionRow : OpenClaim := { program := "ytmhphmolbjjopaadoor", sum := "d0e58bfcc7a2c792712ec2772aaa9ff4239cad10ca5c1df9a3b4e6fbd56fb17c", func := "royalty/royaltylaw06.FactsetUnion", spec := "factsetUnion", unfollowed := true, recurses := true, named := ["royalty/digest.constants"], apart := false, laid := [("royalty/digest.constants", laid_royalty_digest_constants)] }
def FactsetUnionSaid : Prop := factsetUnionRow.holds Tryd.pinned (OpenSpec.ofChange factsetUnionSpec)

/-- ITS FALSE NEIGHBOUR: 'it returns false'. Refute it at one input. -/
def factsetUnionWrong : ChangeSpec := { name := "factsetUnion", fn := fun _ => fun
  | [d1, d2, d3] => { results := [.lit (.bool false)], args := [d1, d2, d3] }
  | _ => none }
def FactsetUnionWrongFalsely : Prop := factsetUnionRow.holds Tryd.pinned (OpenSpec.ofChange factsetUnionWrong)

/-- 'royaltylaw06.FactsetRoot': WHATEVER THE INPUT: true; the input reads as it did. -/
def factsetRootSpec : ChangeSpec := { name := "factsetRoot", fn := fun _ => fun
  | [d1, d2, d3] => { results := [.lit (.bool true)], args := [d1, d2, d3] }
  | _ => none }
def factsetRootRow : OpenClaim := { program := "ytmhphmolbjjopaadoor", sum := "d0e58bfcc7a2c792712ec2772aaa9ff4239cad10ca5c1df9a3b4e6fbd56fb17c", func := "royalty/royaltylaw06.FactsetRoot", spec := "factsetRoot", unfollowed := true, recurses := true, named := ["royalty/digest.constants"], apart := false, laid := [("royalty/digest.constants", laid_royalty_digest_constants)] }
def FactsetRootSaid : Prop := factsetRootRow.holds Tryd.pinned (OpenSpec.ofChange factsetRootSpec)

/-- ITS FALSE NEIGHBOUR: 'it returns false'. Refute it at one input. -/
def factsetRootWrong : ChangeSpec := { name := "factsetRoot", fn := fun _ => fun
  | [d1, d2, d3] => { results := [.lit (.bool false)], args := [d1, d2, d3] }
  | _ => none }
def FactsetRootWrongFalsely : Prop := factsetRootRow.holds Tryd.pinned (OpenSpec.ofChange factsetRootWrong)

/-- 'royaltylaw06.FactsetPart': WHATEVER THE INPUT: true; the input reads as it did. -/
def factsetPartSpec : ChangeSpec := { name := "factsetPart", fn := fun _ => fun
  | [d1, d2, d3, d4] => { results := [.lit (.bool true)], args := [d1, d2, d3, d4] }
  | _ => none }
def factsetPartRow : OpenClaim := { program := "ytmhphmolbjjopaadoor", sum := "d0e58bfcc7a2c792712ec2772aaa9ff4239cad10ca5c1df9a3b4e6fbd56fb17c", func := "royalty/royaltylaw06.FactsetPart", spec := "factsetPart", unfollowed := true, recurses := true, named := ["royalty/digest.constants"], apart := false, laid := [("royalty/digest.constants", laid_royalty_digest_constants)] }
def FactsetPartSaid : Prop := factsetPartRow.holds Tryd.pinned (OpenSpec.ofChange factsetPartSpec)

/-- ITS FALSE NEIGHBOUR: 'it returns false'. Refute it at one input. -/
def factsetPartWrong : ChangeSpec := { name := "factsetPart", fn := fun _ => fun
  | [d1, d2, d3, d4] => { results := [.lit (.bool false)], args := [d1, d2, d3, d4] }
  | _ => none }
def FactsetPartWrongFalsely : Prop := factsetPartRow.holds Tryd.pinned (OpenSpec.ofChange factsetPartWrong)

/-- 'royaltylaw06.FactsetLookups': WHATEVER THE INPUT: true; the input reads as it did. -/
def factsetLookupsSpec : ChangeSpec := { name := "factsetLookups", fn := fun _ => fun
  | [d1, d2] => { results := [.lit (.bool true)], args := [d1, d2] }
  | _ => none }
def factsetLookupsRow : OpenClaim := { program := "ytmhphmolbjjopaadoor", sum := "d0e58bfcc7a2c792712ec2772aaa9ff4239cad10ca5c1df9a3b4e6fbd56fb17c", func := "royalty/royaltylaw06.FactsetLookups", spec := "factsetLookups", unfollowed := true, recurses := true, named := ["royalty/digest.constants"], apart := false, laid := [("royalty/digest.constants", laid_royalty_digest_constants)] }
def FactsetLookupsSaid : Prop := factsetLookupsRow.holds Tryd.pinned (OpenSpec.ofChange factsetLookupsSpec)

/-- ITS FALSE NEIGHBOUR: 'it returns false'. Refute it at one input. -/
def factsetLookupsWrong : ChangeSpec := { name := "factsetLookups", fn := fun _ => fun
  | [d1, d2] => { results := [.lit (.bool false)], args := [d1, d2] }
  | _ => none }
def FactsetLookupsWrongFalsely : Prop := factsetLookupsRow.holds Tryd.pinned (OpenSpec.ofChange factsetLookupsWrong)

/-- 'royaltylaw06.FactsetFull': WHATEVER THE INPUT: true; the input reads as it did. -/
def factsetFullSpec : ChangeSpec := { name := "factsetFull", fn := fun _ => fun
  | [d1, d2] => { results := [.lit (.bool true)], args := [d1, d2] }
  | _ => none }
def factsetFullRow : OpenClaim := { program := "ytmhphmolbjjopaadoor", sum := "d0e58bfcc7a2c792712ec2772aaa9ff4239cad10ca5c1df9a3b4e6fbd56fb17c", func := "royalty/royaltylaw06.FactsetFull", spec := "factsetFull", unfollowed := true, recurses := true, named := ["royalty/digest.constants"], apart := false, laid := [("royalty/digest.constants", laid_royalty_digest_constants)] }
def FactsetFullSaid : Prop := factsetFullRow.holds Tryd.pinned (OpenSpec.ofChange factsetFullSpec)

/-- ITS FALSE NEIGHBOUR: 'it returns false'. Refute it at one input. -/
def factsetFullWrong : ChangeSpec := { name := "factsetFull", fn := fun _ => fun
  | [d1, d2] => { results := [.lit (.bool false)], args := [d1, d2] }
  | _ => none }
def FactsetFullWrongFalsely : Prop := factsetFullRow.holds Tryd.pinned (OpenSpec.ofChange factsetFullWrong)

/-- 'royaltylaw06.FactsetNil': WHATEVER THE INPUT: true; the input reads as it did. -/
def factsetNilSpec : ChangeSpec := { name := "factsetNil", fn := fun _ => fun
  | [d1, d2] => { results := [.lit (.bool true)], args := [d1, d2] }
  | _ => none }
def factsetNilRow : OpenClaim := { program := "ytmhphmolbjjopaadoor", sum := "d0e58bfcc7a2c792712ec2772aaa9ff4239cad10ca5c1df9a3b4e6fbd56fb17c", func := "royalty/royaltylaw06.FactsetNil", spec := "factsetNil", unfollowed := true, recurses := true, named := ["royalty/digest.constants"], apart := false, laid := [("royalty/digest.constants", laid_royalty_digest_constants)] }
def FactsetNilSaid : Prop := factsetNilRow.holds Tryd.pinned (OpenSpec.ofChange factsetNilSpec)

/-- ITS FALSE NEIGHBOUR: 'it returns false'. Refute it at one input. -/
def factsetNilWrong : ChangeSpec := { name := "factsetNil", fn := fun _ => fun
  | [d1, d2] => { results := [.lit (.bool false)], args := [d1, d2] }
  | _ => none }
def FactsetNilWrongFalsely : Prop := factsetNilRow.holds Tryd.pinned (OpenSpec.ofChange factsetNilWrong)

/- THE SECOND FORM. 'bulk': how many values and letters a reading holds, each counted each time it is reached (what is shared counts as often as it is met; a slice's spare places count too). A statement '..UptoSaid' is the law's where the arguments, and the package variables that the reading takes, are together of bulk at most 1048576: NARROWER than '..Said'. Prove '..Said' where nothing that the law and all that it calls make is longer than what came in: it says more and counts as full. Else prove '..UptoSaid'. A law counts once. -/
mutual
def uptoBulk {H : Type} : DataW H → Nat
  | .lit (.string bytes) => bytes.length + 1
  | .lit _ => 1
  | .nil => 1
  | .ptr d => uptoBulk d + 1
  | .slice elems spare => uptoBulkAll elems + uptoBulkAll spare + 1
  | .agg parts => uptoBulkAll parts + 1
  | .iface _ d => uptoBulk d + 1
  | .map entries => uptoBulkEntries entries + 1
  | .held _ => 1
def uptoBulkAll {H : Type} : List (DataW H) → Nat
  | [] => 0
  | d :: r => uptoBulk d + uptoBulkAll r
def uptoBulkEntries {H : Type} : List (Lit × DataW H) → Nat
  | [] => 0
  | x :: r => uptoBulkEntry x + uptoBulkEntries r
def uptoBulkEntry {H : Type} : Lit × DataW H → Nat
  | (.string bytes, d) => bytes.length + uptoBulk d + 1
  | (_, d) => uptoBulk d + 1
 end
def uptoSmall : (H : Type) → List (DataW H) → Bool := fun _ ds => decide (uptoBulkAll ds ≤ 1048576)
def OpenSpec.upto (s : _root_.Go.ChangeSpec) : _root_.Go.OpenSpec := { _root_.Go.OpenSpec.ofChange s with cond := some uptoSmall }

/-- 'royaltylaw06.FactsetOrder', WHERE WHAT IT READS IS OF BULK AT MOST 1048576: true; the input reads as it did. -/
def factsetOrderUptoRow : OpenClaim := { program := "ytmhphmolbjjopaadoor", sum := "d0e58bfcc7a2c792712ec2772aaa9ff4239cad10ca5c1df9a3b4e6fbd56fb17c", func := "royalty/royaltylaw06.FactsetOrder", spec := "factsetOrder", unfollowed := true, recurses := true, named := ["royalty/digest.constants"], apart := false, laid := [("royalty/digest.constants", laid_royalty_digest_constants)], narrowed := true }
def FactsetOrderUptoSaid : Prop := factsetOrderUptoRow.holds Tryd.pinned (OpenSpec.upto factsetOrderSpec)

/-- 'royaltylaw06.FactsetUnion', WHERE WHAT IT READS IS OF BULK AT MOST 1048576: true; the input reads as it did. -/
def factsetUnionUptoRow : OpenClaim := { program := "ytmhphmolbjjopaadoor", sum := "d0e58bfcc7a2c792712ec2772aaa9ff4239cad10ca5c1df9a3b4e6fbd56fb17c", func := "royalty/royaltylaw06.FactsetUnion", spec := "factsetUnion", unfollowed := true, recurses := true, named := ["royalty/digest.constants"], apart := false, laid := [("royalty/digest.constants", laid_royalty_digest_constants)], narrowed := true }
def FactsetUnionUptoSaid : Prop := factsetUnionUptoRow.holds Tryd.pinned (OpenSpec.upto factsetUnionSpec)

/-- 'royaltylaw06.FactsetRoot', WHERE WHAT IT READS IS OF BULK AT MOST 1048576: true; the input reads as it did. -/
def factsetRootUptoRow : OpenClaim := { program := "ytmhphmolbjjopaadoor", sum := "d0e58bfcc7a2c792712ec2772aaa9ff4239cad10ca5c1df9a3b4e6fbd56fb17c", func := "royalty/royaltylaw06.FactsetRoot", spec := "factsetRoot", unfollowed := true, recurses := true, named := ["royalty/digest.constants"], apart := false, laid := [("royalty/digest.constants", laid_royalty_digest_constants)], narrowed := true }
def FactsetRootUptoSaid : Prop := factsetRootUptoRow.holds Tryd.pinned (OpenSpec.upto factsetRootSpec)

/-- 'royaltylaw06.FactsetPart', WHERE WHAT IT READS IS OF BULK AT MOST 1048576: true; the input reads as it did. -/
def factsetPartUptoRow : OpenClaim := { program := "ytmhphmolbjjopaadoor", sum := "d0e58bfcc7a2c792712ec2772aaa9ff4239cad10ca5c1df9a3b4e6fbd56fb17c", func := "royalty/royaltylaw06.FactsetPart", spec := "factsetPart", unfollowed := true, recurses := true, named := ["royalty/digest.constants"], apart := false, laid := [("royalty/digest.constants", laid_royalty_digest_constants)], narrowed := true }
def FactsetPartUptoSaid : Prop := factsetPartUptoRow.holds Tryd.pinned (OpenSpec.upto factsetPartSpec)

/-- 'royaltylaw06.FactsetLookups', WHERE WHAT IT READS IS OF BULK AT MOST 1048576: true; the input reads as it did. -/
def factsetLookupsUptoRow : OpenClaim := { program := "ytmhphmolbjjopaadoor", sum := "d0e58bfcc7a2c792712ec2772aaa9ff4239cad10ca5c1df9a3b4e6fbd56fb17c", func := "royalty/royaltylaw06.FactsetLookups", spec := "factsetLookups", unfollowed := true, recurses := true, named := ["royalty/digest.constants"], apart := false, laid := [("royalty/digest.constants", laid_royalty_digest_constants)], narrowed := true }
def FactsetLookupsUptoSaid : Prop := factsetLookupsUptoRow.holds Tryd.pinned (OpenSpec.upto factsetLookupsSpec)

/-- 'royaltylaw06.FactsetFull', WHERE WHAT IT READS IS OF BULK AT MOST 1048576: true; the input reads as it did. -/
def factsetFullUptoRow : OpenClaim := { program := "ytmhphmolbjjopaadoor", sum := "d0e58bfcc7a2c792712ec2772aaa9ff4239cad10ca5c1df9a3b4e6fbd56fb17c", func := "royalty/royaltylaw06.FactsetFull", spec := "factsetFull", unfollowed := true, recurses := true, named := ["royalty/digest.constants"], apart := false, laid := [("royalty/digest.constants", laid_royalty_digest_constants)], narrowed := true }
def FactsetFullUptoSaid : Prop := factsetFullUptoRow.holds Tryd.pinned (OpenSpec.upto factsetFullSpec)

/-- 'royaltylaw06.FactsetNil', WHERE WHAT IT READS IS OF BULK AT MOST 1048576: true; the input reads as it did. -/
def factsetNilUptoRow : OpenClaim := { program := "ytmhphmolbjjopaadoor", sum := "d0e58bfcc7a2c792712ec2772aaa9ff4239cad10ca5c1df9a3b4e6fbd56fb17c", func := "royalty/royaltylaw06.FactsetNil", spec := "factsetNil", unfollowed := true, recurses := true, named := ["royalty/digest.constants"], apart := false, laid := [("royalty/digest.constants", laid_royalty_digest_constants)], narrowed := true }
def FactsetNilUptoSaid : Prop := factsetNilUptoRow.holds Tryd.pinned (OpenSpec.upto factsetNilSpec)

end Rows
end Go.Proofs.YtmhphmolbjjopaaDoor
