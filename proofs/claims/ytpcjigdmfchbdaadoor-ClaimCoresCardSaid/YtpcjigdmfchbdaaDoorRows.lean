/-
  NARROWER THAN 'FOR EVERY INPUT', by the rows' own cells (each row's printed sentence says how): ClaimGranted: laid · ClaimSets: laid · ClaimIdeals: laid · ClaimDefends: laid · ClaimCores: laid · ClaimOdds: laid · ClaimLemma: laid · ClaimLeast: laid · ClaimChain: laid · ClaimIdeal: laid · ClaimRings: laid · ClaimCore: laid · ClaimNames: laid.
  DERIVED. THE GIVEN ROWS OF THIS SEAT. 13 by the template 'for every input the law returns true; each argument reads behind the call as it read before'; 0 by the template 'total and deterministic' (their statements: YtpcjigdmfchbdaaDoorTotals.lean).
  GIVEN WITH THE SEED: the statements are not yours to turn. If you find one false, say at which input.
  Laid BY PROGRAM, IN A SANDBOX (cutbox-rows.mjs): the forced cells as the released guide's own fill.sh prints them over the translation 99932f8c2c4a9870… (all of the seat's roots in one cut). By AI agents, Wed Nov 11 2026. No macro, syntax, notation, axiom, sorry.
-/
import Derived.Test.YtpcjigdmfchbdaaDoorChecked
import GoSem.Claim
import GoSem.ClaimJoined
import GoSem.ClaimMapViews
import Derived.JoinedTies
import Derived.KernelRfl
namespace Go.Proofs.YtpcjigdmfchbdaaDoor
/- THE CELL 'sum', in the pinned program and in every row, IS THE sha256 OF THE DUMP (.gsa) THAT YtpcjigdmfchbdaaDoorProg.lean LOADS. Nothing in Lean hashes anything: it is a label: what it is worth is what the hold of that sum in a sandbox is worth. -/
noncomputable def Tryd.pinned : Pinned := { name := "ytpcjigdmfchbdaadoor", sum := "99932f8c2c4a9870dbec188c4cb6a7374eb574fb573e07dda499cb71b395bc42", checked := Tryd.checked }
namespace Rows
def none {H : Type} : Left H := { results := [], args := [] }

/- WHAT THE LISTED PACKAGE-LEVEL VARIABLES READ AS WHEN THE CALL BEGINS. Each datum BY PROGRAM (the guide's laid-datum.mjs) off the statement by which the dump's own 'gosem.cut.vars' lays the variable. In a bare row this is a premise. The card (YtpcjigdmfchbdaaDoorCards.lean) ties it to the program's text. -/
def laid_math_bits_deBruijn32tab {H : Type} : DataW H := .agg [.lit (.int .u8 0), .lit (.int .u8 1), .lit (.int .u8 28), .lit (.int .u8 2), .lit (.int .u8 29), .lit (.int .u8 14), .lit (.int .u8 24), .lit (.int .u8 3), .lit (.int .u8 30), .lit (.int .u8 22), .lit (.int .u8 20), .lit (.int .u8 15), .lit (.int .u8 25), .lit (.int .u8 17), .lit (.int .u8 4), .lit (.int .u8 8), .lit (.int .u8 31), .lit (.int .u8 27), .lit (.int .u8 13), .lit (.int .u8 23), .lit (.int .u8 21), .lit (.int .u8 19), .lit (.int .u8 16), .lit (.int .u8 7), .lit (.int .u8 26), .lit (.int .u8 12), .lit (.int .u8 18), .lit (.int .u8 6), .lit (.int .u8 11), .lit (.int .u8 5), .lit (.int .u8 10), .lit (.int .u8 9)]
def laid_math_bits_deBruijn64tab {H : Type} : DataW H := .agg [.lit (.int .u8 0), .lit (.int .u8 1), .lit (.int .u8 56), .lit (.int .u8 2), .lit (.int .u8 57), .lit (.int .u8 49), .lit (.int .u8 28), .lit (.int .u8 3), .lit (.int .u8 61), .lit (.int .u8 58), .lit (.int .u8 42), .lit (.int .u8 50), .lit (.int .u8 38), .lit (.int .u8 29), .lit (.int .u8 17), .lit (.int .u8 4), .lit (.int .u8 62), .lit (.int .u8 47), .lit (.int .u8 59), .lit (.int .u8 36), .lit (.int .u8 45), .lit (.int .u8 43), .lit (.int .u8 51), .lit (.int .u8 22), .lit (.int .u8 53), .lit (.int .u8 39), .lit (.int .u8 33), .lit (.int .u8 30), .lit (.int .u8 24), .lit (.int .u8 18), .lit (.int .u8 12), .lit (.int .u8 5), .lit (.int .u8 63), .lit (.int .u8 55), .lit (.int .u8 48), .lit (.int .u8 27), .lit (.int .u8 60), .lit (.int .u8 41), .lit (.int .u8 37), .lit (.int .u8 16), .lit (.int .u8 46), .lit (.int .u8 35), .lit (.int .u8 44), .lit (.int .u8 21), .lit (.int .u8 52), .lit (.int .u8 32), .lit (.int .u8 23), .lit (.int .u8 11), .lit (.int .u8 54), .lit (.int .u8 26), .lit (.int .u8 40), .lit (.int .u8 15), .lit (.int .u8 34), .lit (.int .u8 20), .lit (.int .u8 31), .lit (.int .u8 10), .lit (.int .u8 25), .lit (.int .u8 14), .lit (.int .u8 19), .lit (.int .u8 9), .lit (.int .u8 13), .lit (.int .u8 8), .lit (.int .u8 7), .lit (.int .u8 6)]

/-- 'bolsterlaw12.ClaimGranted': WHATEVER THE INPUT: true; the input reads as it did. -/
def claimGrantedSpec : ChangeSpec := { name := "claimGranted", fn := fun _ => fun
  | [d1, d2, d3] => { results := [.lit (.bool true)], args := [d1, d2, d3] }
  | _ => none }
def claimGrantedRow : OpenClaim := { program := "ytpcjigdmfchbdaadoor", sum := "99932f8c2c4a9870dbec188c4cb6a7374eb574fb573e07dda499cb71b395bc42", func := "bolster/bolsterlaw12.ClaimGranted", spec := "claimGranted", unfollowed := true, recurses := true, named := ["math/bits.deBruijn32tab", "math/bits.deBruijn64tab"], apart := false, laid := [("math/bits.deBruijn32tab", laid_math_bits_deBruijn32tab), ("math/bits.deBruijn64tab", laid_math_bits_deBruijn64tab)] }
def ClaimGrantedSaid : Prop := claimGrantedRow.holds Tryd.pinned (OpenSpec.ofChange claimGrantedSpec)

/-- ITS FALSE NEIGHBOUR: 'it returns false'. Refute it at one input. -/
def claimGrantedWrong : ChangeSpec := { name := "claimGranted", fn := fun _ => fun
  | [d1, d2, d3] => { results := [.lit (.bool false)], args := [d1, d2, d3] }
  | _ => none }
def ClaimGrantedWrongFalsely : Prop := claimGrantedRow.holds Tryd.pinned (OpenSpec.ofChange claimGrantedWrong)

/-- 'bolsterlaw12.ClaimSets': WHATEVER THE INPUT: true; the input reads as it did. -/
def claimSetsSpec : ChangeSpec := { name := "claimSets", fn := fun _ => fun
  | [d1, d2] => { results := [.lit (.bool true)], args := [d1, d2] }
  | _ => none }
def claimSetsRow : OpenClaim := { program := "ytpcjigdmfchbdaadoor", sum := "99932f8c2c4a9870dbec188c4cb6a7374eb574fb573e07dda499cb71b395bc42", func := "bolster/bolsterlaw12.ClaimSets", spec := "claimSets", unfollowed := true, recurses := true, named := ["math/bits.deBruijn32tab", "math/bits.deBruijn64tab"], apart := false, laid := [("math/bits.deBruijn32tab", laid_math_bits_deBruijn32tab), ("math/bits.deBruijn64tab", laid_math_bits_deBruijn64tab)] }
def ClaimSetsSaid : Prop := claimSetsRow.holds Tryd.pinned (OpenSpec.ofChange claimSetsSpec)

/-- ITS FALSE NEIGHBOUR: 'it returns false'. Refute it at one input. -/
def claimSetsWrong : ChangeSpec := { name := "claimSets", fn := fun _ => fun
  | [d1, d2] => { results := [.lit (.bool false)], args := [d1, d2] }
  | _ => none }
def ClaimSetsWrongFalsely : Prop := claimSetsRow.holds Tryd.pinned (OpenSpec.ofChange claimSetsWrong)

/-- 'bolsterlaw12.ClaimIdeals': WHATEVER THE INPUT: true; the input reads as it did. -/
def claimIdealsSpec : ChangeSpec := { name := "claimIdeals", fn := fun _ => fun
  | [d1, d2] => { results := [.lit (.bool true)], args := [d1, d2] }
  | _ => none }
def claimIdealsRow : OpenClaim := { program := "ytpcjigdmfchbdaadoor", sum := "99932f8c2c4a9870dbec188c4cb6a7374eb574fb573e07dda499cb71b395bc42", func := "bolster/bolsterlaw12.ClaimIdeals", spec := "claimIdeals", unfollowed := true, recurses := true, named := ["math/bits.deBruijn32tab", "math/bits.deBruijn64tab"], apart := false, laid := [("math/bits.deBruijn32tab", laid_math_bits_deBruijn32tab), ("math/bits.deBruijn64tab", laid_math_bits_deBruijn64tab)] }
def ClaimIdealsSaid : Prop := claimIdealsRow.holds Tryd.pinned (OpenSpec.ofChange claimIdealsSpec)

/-- ITS FALSE NEIGHBOUR: 'it returns false'. Refute it at one input. -/
def claimIdealsWrong : ChangeSpec := { name := "claimIdeals", fn := fun _ => fun
  | [d1, d2] => { results := [.lit (.bool false)], args := [d1, d2] }
  | _ => none }
def ClaimIdealsWrongFalsely : Prop := claimIdealsRow.holds Tryd.pinned (OpenSpec.ofChange claimIdealsWrong)

/-- 'bolsterlaw12.ClaimDefends': WHATEVER THE INPUT: true; the input reads as it did. -/
def claimDefendsSpec : ChangeSpec := { name := "claimDefends", fn := fun _ => fun
  | [d1, d2, d3] => { results := [.lit (.bool true)], args := [d1, d2, d3] }
  | _ => none }
def claimDefendsRow : OpenClaim := { program := "ytpcjigdmfchbdaadoor", sum := "99932f8c2c4a9870dbec188c4cb6a7374eb574fb573e07dda499cb71b395bc42", func := "bolster/bolsterlaw12.ClaimDefends", spec := "claimDefends", unfollowed := true, recurses := true, named := ["math/bits.deBruijn32tab", "math/bits.deBruijn64tab"], apart := false, laid := [("math/bits.deBruijn32tab", laid_math_bits_deBruijn32tab), ("math/bits.deBruijn64tab", laid_math_bits_deBruijn64tab)] }
def ClaimDefendsSaid : Prop := claimDefendsRow.holds Tryd.pinned (OpenSpec.ofChange claimDefendsSpec)

/-- ITS FALSE NEIGHBOUR: 'it returns false'. Refute it at one input. -/
def claimDefendsWrong : ChangeSpec := { name := "claimDefends", fn := fun _ => fun
  | [d1, d2, d3] => { results := [.lit (.bool false)], args := [d1, d2, d3] }
  | _ => none }
def ClaimDefendsWrongFalsely : Prop := claimDefendsRow.holds Tryd.pinned (OpenSpec.ofChange claimDefendsWrong)

/-- 'bolsterlaw12.ClaimCores': WHATEVER THE INPUT: true; the input reads as it did. -/
def claimCoresSpec : ChangeSpec := { name := "claimCores", fn := fun _ => fun
  | [d1, d2] => { results := [.lit (.bool true)], args := [d1, d2] }
  | _ => none }
def claimCoresRow : OpenClaim := { program := "ytpcjigdmfchbdaadoor", sum := "99932f8c2c4a9870dbec188c4cb6a7374eb574fb573e07dda499cb71b395bc42", func := "bolster/bolsterlaw12.ClaimCores", spec := "claimCores", unfollowed := true, recurses := true, named := ["math/bits.deBruijn32tab", "math/bits.deBruijn64tab"], apart := false, laid := [("math/bits.deBruijn32tab", laid_math_bits_deBruijn32tab), ("math/bits.deBruijn64tab", laid_math_bits_deBruijn64tab)] }
def ClaimCoresSaid : Prop := claimCoresRow.holds Tryd.pinned (OpenSpec.ofChange claimCoresSpec)

/-- ITS FALSE NEIGHBOUR: 'it returns false'. Refute it at one input. -/
def claimCoresWrong : ChangeSpec := { name := "claimCores", fn := fun _ => fun
  | [d1, d2] => { results := [.lit (.bool false)], args := [d1, d2] }
  | _ => none }
def ClaimCoresWrongFalsely : Prop := claimCoresRow.holds Tryd.pinned (OpenSpec.ofChange claimCoresWrong)

/-- 'bolsterlaw12.ClaimOdds': WHATEVER THE INPUT: true; the input reads as it did. -/
def claimOddsSpec : ChangeSpec := { name := "claimOdds", fn := fun _ => fun
  | [d1, d2] => { results := [.lit (.bool true)], args := [d1, d2] }
  | _ => none }
def claimOddsRow : OpenClaim := { program := "ytpcjigdmfchbdaadoor", sum := "99932f8c2c4a9870dbec188c4cb6a7374eb574fb573e07dda499cb71b395bc42", func := "bolster/bolsterlaw12.ClaimOdds", spec := "claimOdds", unfollowed := true, recurses := true, named := ["math/bits.deBruijn32tab", "math/bits.deBruijn64tab"], apart := false, laid := [("math/bits.deBruijn32tab", laid_math_bits_deBruijn32tab), ("math/bits.deBruijn64tab", laid_math_bits_deBruijn64tab)] }
def ClaimOddsSaid : Prop := claimOddsRow.holds Tryd.pinned (OpenSpec.ofChange claimOddsSpec)

/-- ITS FALSE NEIGHBOUR: 'it returns false'. Refute it at one input. -/
def claimOddsWrong : ChangeSpec := { name := "claimOdds", fn := fun _ => fun
  | [d1, d2] => { results := [.lit (.bool false)], args := [d1, d2] }
  | _ => none }
def ClaimOddsWrongFalsely : Prop := claimOddsRow.holds Tryd.pinned (OpenSpec.ofChange claimOddsWrong)

/-- 'bolsterlaw12.ClaimLemma': WHATEVER THE INPUT: true; the input reads as it did. -/
def claimLemmaSpec : ChangeSpec := { name := "claimLemma", fn := fun _ => fun
  | [d1, d2, d3] => { results := [.lit (.bool true)], args := [d1, d2, d3] }
  | _ => none }
def claimLemmaRow : OpenClaim := { program := "ytpcjigdmfchbdaadoor", sum := "99932f8c2c4a9870dbec188c4cb6a7374eb574fb573e07dda499cb71b395bc42", func := "bolster/bolsterlaw12.ClaimLemma", spec := "claimLemma", unfollowed := true, recurses := true, named := ["math/bits.deBruijn32tab", "math/bits.deBruijn64tab"], apart := false, laid := [("math/bits.deBruijn32tab", laid_math_bits_deBruijn32tab), ("math/bits.deBruijn64tab", laid_math_bits_deBruijn64tab)] }
def ClaimLemmaSaid : Prop := claimLemmaRow.holds Tryd.pinned (OpenSpec.ofChange claimLemmaSpec)

/-- ITS FALSE NEIGHBOUR: 'it returns false'. Refute it at one input. -/
def claimLemmaWrong : ChangeSpec := { name := "claimLemma", fn := fun _ => fun
  | [d1, d2, d3] => { results := [.lit (.bool false)], args := [d1, d2, d3] }
  | _ => none }
def ClaimLemmaWrongFalsely : Prop := claimLemmaRow.holds Tryd.pinned (OpenSpec.ofChange claimLemmaWrong)

/-- 'bolsterlaw12.ClaimLeast': WHATEVER THE INPUT: true; the input reads as it did. -/
def claimLeastSpec : ChangeSpec := { name := "claimLeast", fn := fun _ => fun
  | [d1, d2] => { results := [.lit (.bool true)], args := [d1, d2] }
  | _ => none }
def claimLeastRow : OpenClaim := { program := "ytpcjigdmfchbdaadoor", sum := "99932f8c2c4a9870dbec188c4cb6a7374eb574fb573e07dda499cb71b395bc42", func := "bolster/bolsterlaw12.ClaimLeast", spec := "claimLeast", unfollowed := true, recurses := true, named := ["math/bits.deBruijn32tab", "math/bits.deBruijn64tab"], apart := false, laid := [("math/bits.deBruijn32tab", laid_math_bits_deBruijn32tab), ("math/bits.deBruijn64tab", laid_math_bits_deBruijn64tab)] }
def ClaimLeastSaid : Prop := claimLeastRow.holds Tryd.pinned (OpenSpec.ofChange claimLeastSpec)

/-- ITS FALSE NEIGHBOUR: 'it returns false'. Refute it at one input. -/
def claimLeastWrong : ChangeSpec := { name := "claimLeast", fn := fun _ => fun
  | [d1, d2] => { results := [.lit (.bool false)], args := [d1, d2] }
  | _ => none }
def ClaimLeastWrongFalsely : Prop := claimLeastRow.holds Tryd.pinned (OpenSpec.ofChange claimLeastWrong)

/-- 'bolsterlaw12.ClaimChain': WHATEVER THE INPUT: true; the input reads as it did. -/
def claimChainSpec : ChangeSpec := { name := "claimChain", fn := fun _ => fun
  | [d1, d2] => { results := [.lit (.bool true)], args := [d1, d2] }
  | _ => none }
def claimChainRow : OpenClaim := { program := "ytpcjigdmfchbdaadoor", sum := "99932f8c2c4a9870dbec188c4cb6a7374eb574fb573e07dda499cb71b395bc42", func := "bolster/bolsterlaw12.ClaimChain", spec := "claimChain", unfollowed := true, recurses := true, named := ["math/bits.deBruijn32tab", "math/bits.deBruijn64tab"], apart := false, laid := [("math/bits.deBruijn32tab", laid_math_bits_deBruijn32tab), ("math/bits.deBruijn64tab", laid_math_bits_deBruijn64tab)] }
def ClaimChainSaid : Prop := claimChainRow.holds Tryd.pinned (OpenSpec.ofChange claimChainSpec)

/-- ITS FALSE NEIGHBOUR: 'it returns false'. Refute it at one input. -/
def claimChainWrong : ChangeSpec := { name := "claimChain", fn := fun _ => fun
  | [d1, d2] => { results := [.lit (.bool false)], args := [d1, d2] }
  | _ => none }
def ClaimChainWrongFalsely : Prop := claimChainRow.holds Tryd.pinned (OpenSpec.ofChange claimChainWrong)

/-- 'bolsterlaw12.ClaimIdeal': WHATEVER THE INPUT: true; the input reads as it did. -/
def claimIdealSpec : ChangeSpec := { name := "claimIdeal", fn := fun _ => fun
  | [d1, d2] => { results := [.lit (.bool true)], args := [d1, d2] }
  | _ => none }
def claimIdealRow : OpenClaim := { program := "ytpcjigdmfchbdaadoor", sum := "99932f8c2c4a9870dbec188c4cb6a7374eb574fb573e07dda499cb71b395bc42", func := "bolster/bolsterlaw12.ClaimIdeal", spec := "claimIdeal", unfollowed := true, recurses := true, named := ["math/bits.deBruijn32tab", "math/bits.deBruijn64tab"], apart := false, laid := [("math/bits.deBruijn32tab", laid_math_bits_deBruijn32tab), ("math/bits.deBruijn64tab", laid_math_bits_deBruijn64tab)] }
def ClaimIdealSaid : Prop := claimIdealRow.holds Tryd.pinned (OpenSpec.ofChange claimIdealSpec)

/-- ITS FALSE NEIGHBOUR: 'it returns false'. Refute it at one input. -/
def claimIdealWrong : ChangeSpec := { name := "claimIdeal", fn := fun _ => fun
  | [d1, d2] => { results := [.lit (.bool false)], args := [d1, d2] }
  | _ => none }
def ClaimIdealWrongFalsely : Prop := claimIdealRow.holds Tryd.pinned (OpenSpec.ofChange claimIdealWrong)

/-- 'bolsterlaw12.ClaimRings': WHATEVER THE INPUT: true; the input reads as it did. -/
def claimRingsSpec : ChangeSpec := { name := "claimRings", fn := fun _ => fun
  | [d1, d2, d3] => { results := [.lit (.bool true)], args := [d1, d2, d3] }
  | _ => none }
def claimRingsRow : OpenClaim := { program := "ytpcjigdmfchbdaadoor", sum := "99932f8c2c4a9870dbec188c4cb6a7374eb574fb573e07dda499cb71b395bc42", func := "bolster/bolsterlaw12.ClaimRings", spec := "claimRings", unfollowed := true, recurses := true, named := ["math/bits.deBruijn32tab", "math/bits.deBruijn64tab"], apart := false, laid := [("math/bits.deBruijn32tab", laid_math_bits_deBruijn32tab), ("math/bits.deBruijn64tab", laid_math_bits_deBruijn64tab)] }
def ClaimRingsSaid : Prop := claimRingsRow.holds Tryd.pinned (OpenSpec.ofChange claimRingsSpec)

/-- ITS FALSE NEIGHBOUR: 'it returns false'. Refute it at one input. -/
def claimRingsWrong : ChangeSpec := { name := "claimRings", fn := fun _ => fun
  | [d1, d2, d3] => { results := [.lit (.bool false)], args := [d1, d2, d3] }
  | _ => none }
def ClaimRingsWrongFalsely : Prop := claimRingsRow.holds Tryd.pinned (OpenSpec.ofChange claimRingsWrong)

/-- 'bolsterlaw12.ClaimCore': WHATEVER THE INPUT: true; the input reads as it did. -/
def claimCoreSpec : ChangeSpec := { name := "claimCore", fn := fun _ => fun
  | [d1, d2, d3] => { results := [.lit (.bool true)], args := [d1, d2, d3] }
  | _ => none }
def claimCoreRow : OpenClaim := { program := "ytpcjigdmfchbdaadoor", sum := "99932f8c2c4a9870dbec188c4cb6a7374eb574fb573e07dda499cb71b395bc42", func := "bolster/bolsterlaw12.ClaimCore", spec := "claimCore", unfollowed := true, recurses := true, named := ["math/bits.deBruijn32tab", "math/bits.deBruijn64tab"], apart := false, laid := [("math/bits.deBruijn32tab", laid_math_bits_deBruijn32tab), ("math/bits.deBruijn64tab", laid_math_bits_deBruijn64tab)] }
def ClaimCoreSaid : Prop := claimCoreRow.holds Tryd.pinned (OpenSpec.ofChange claimCoreSpec)

/-- ITS FALSE NEIGHBOUR: 'it returns false'. Refute it at one input. -/
def claimCoreWrong : ChangeSpec := { name := "claimCore", fn := fun _ => fun
  | [d1, d2, d3] => { results := [.lit (.bool false)], args := [d1, d2, d3] }
  | _ => none }
def ClaimCoreWrongFalsely : Prop := claimCoreRow.holds Tryd.pinned (OpenSpec.ofChange claimCoreWrong)

/-- 'bolsterlaw12.ClaimNames': WHATEVER THE INPUT: true; the input reads as it did. -/
def claimNamesSpec : ChangeSpec := { name := "claimNames", fn := fun _ => fun
  | [d1, d2, d3] => { results := [.lit (.bool true)], args := [d1, d2, d3] }
  | _ => none }
def claimNamesRow : OpenClaim := { program := "ytpcjigdmfchbdaadoor", sum := "99932f8c2c4a9870dbec188c4cb6a7374eb574fb573e07dda499cb71b395bc42", func := "bolster/bolsterlaw12.ClaimNames", spec := "claimNames", unfollowed := true, recurses := true, named := ["math/bits.deBruijn32tab", "math/bits.deBruijn64tab"], apart := false, laid := [("math/bits.deBruijn32tab", laid_math_bits_deBruijn32tab), ("math/bits.deBruijn64tab", laid_math_bits_deBruijn64tab)] }
def ClaimNamesSaid : Prop := claimNamesRow.holds Tryd.pinned (OpenSpec.ofChange claimNamesSpec)

/-- ITS FALSE NEIGHBOUR: 'it returns false'. Refute it at one input. -/
def claimNamesWrong : ChangeSpec := { name := "claimNames", fn := fun _ => fun
  | [d1, d2, d3] => { results := [.lit (.bool false)], args := [d1, d2, d3] }
  | _ => none }
def ClaimNamesWrongFalsely : Prop := claimNamesRow.holds Tryd.pinned (OpenSpec.ofChange claimNamesWrong)

/- THE SECOND FORM. 'bulk': how many values and letters a reading holds, each counted each time it is reached (what is shared counts as often as it is met; a slice's spare places count too). A statement '..UptoSaid' is the law's where the arguments, and the package variables that the reading takes, are together of bulk at most 1048576: NARROWER than '..Said'. Prove '..Said' where nothing that the law and all that it calls make is longer than what came in: it says more and counts as full. Else prove '..UptoSaid'. A law counts once. -/
mutual
def uptoBulk {H : Type} : DataW H → Nat
  | .lit (.string bytes) => bytes.length + 1
  | .lit _ => 1
  | .nil => 1
  | .ptr d => uptoBulk d + 1
  | .slice elems spare => uptoBulkAll elems + uptoBulkAll spare + 1
  | .agg parts => uptoBulkAll parts + 1
  | .iface _ d => uptoBulk d + 1
  | .map entries => uptoBulkEntries entries + 1
  | .held _ => 1
def uptoBulkAll {H : Type} : List (DataW H) → Nat
  | [] => 0
  | d :: r => uptoBulk d + uptoBulkAll r
def uptoBulkEntries {H : Type} : List (Lit × DataW H) → Nat
  | [] => 0
  | x :: r => uptoBulkEntry x + uptoBulkEntries r
def uptoBulkEntry {H : Type} : Lit × DataW H → Nat
  | (.string bytes, d) => bytes.length + uptoBulk d + 1
  | (_, d) => uptoBulk d + 1
 end
def uptoSmall : (H : Type) → List (DataW H) → Bool := fun _ ds => decide (uptoBulkAll ds ≤ 1048576)
def OpenSpec.upto (s : _root_.Go.ChangeSpec) : _root_.Go.OpenSpec := { _root_.Go.OpenSpec.ofChange s with cond := some uptoSmall }

/-- 'bolsterlaw12.ClaimGranted', WHERE WHAT IT READS IS OF BULK AT MOST 1048576: true; the input reads as it did. -/
def claimGrantedUptoRow : OpenClaim := { program := "ytpcjigdmfchbdaadoor", sum := "99932f8c2c4a9870dbec188c4cb6a7374eb574fb573e07dda499cb71b395bc42", func := "bolster/bolsterlaw12.ClaimGranted", spec := "claimGranted", unfollowed := true, recurses := true, named := ["math/bits.deBruijn32tab", "math/bits.deBruijn64tab"], apart := false, laid := [("math/bits.deBruijn32tab", laid_math_bits_deBruijn32tab), ("math/bits.deBruijn64tab", laid_math_bits_deBruijn64tab)], narrowed := true }
def ClaimGrantedUptoSaid : Prop := claimGrantedUptoRow.holds Tryd.pinned (OpenSpec.upto claimGrantedSpec)

/-- 'bolsterlaw12.ClaimSets', WHERE WHAT IT READS IS OF BULK AT MOST 1048576: true; the input reads as it did. -/
def claimSetsUptoRow : OpenClaim := { program := "ytpcjigdmfchbdaadoor", sum := "99932f8c2c4a9870dbec188c4cb6a7374eb574fb573e07dda499cb71b395bc42", func := "bolster/bolsterlaw12.ClaimSets", spec := "claimSets", unfollowed := true, recurses := true, named := ["math/bits.deBruijn32tab", "math/bits.deBruijn64tab"], apart := false, laid := [("math/bits.deBruijn32tab", laid_math_bits_deBruijn32tab), ("math/bits.deBruijn64tab", laid_math_bits_deBruijn64tab)], narrowed := true }
def ClaimSetsUptoSaid : Prop := claimSetsUptoRow.holds Tryd.pinned (OpenSpec.upto claimSetsSpec)

/-- 'bolsterlaw12.ClaimIdeals', WHERE WHAT IT READS IS OF BULK AT MOST 1048576: true; the input reads as it did. -/
def claimIdealsUptoRow : OpenClaim := { program := "ytpcjigdmfchbdaadoor", sum := "99932f8c2c4a9870dbec188c4cb6a7374eb574fb573e07dda499cb71b395bc42", func := "bolster/bolsterlaw12.ClaimIdeals", spec := "claimIdeals", unfollowed := true, recurses := true, named := ["math/bits.deBruijn32tab", "math/bits.deBruijn64tab"], apart := false, laid := [("math/bits.deBruijn32tab", laid_math_bits_deBruijn32tab), ("math/bits.deBruijn64tab", laid_math_bits_deBruijn64tab)], narrowed := true }
def ClaimIdealsUptoSaid : Prop := claimIdealsUptoRow.holds Tryd.pinned (OpenSpec.upto claimIdealsSpec)

/-- 'bolsterlaw12.ClaimDefends', WHERE WHAT IT READS IS OF BULK AT MOST 1048576: true; the input reads as it did. -/
def claimDefendsUptoRow : OpenClaim := { program := "ytpcjigdmfchbdaadoor", sum := "99932f8c2c4a9870dbec188c4cb6a7374eb574fb573e07dda499cb71b395bc42", func := "bolster/bolsterlaw12.ClaimDefends", spec := "claimDefends", unfollowed := true, recurses := true, named := ["math/bits.deBruijn32tab", "math/bits.deBruijn64tab"], apart := false, laid := [("math/bits.deBruijn32tab", laid_math_bits_deBruijn32tab), ("math/bits.deBruijn64tab", laid_math_bits_deBruijn64tab)], narrowed := true }
def ClaimDefendsUptoSaid : Prop := claimDefendsUptoRow.holds Tryd.pinned (OpenSpec.upto claimDefendsSpec)

/-- 'bolsterlaw12.ClaimCores', WHERE WHAT IT READS IS OF BULK AT MOST 1048576: true; the input reads as it did. -/
def claimCoresUptoRow : OpenClaim := { program := "ytpcjigdmfchbdaadoor", sum := "99932f8c2c4a9870dbec188c4cb6a7374eb574fb573e07dda499cb71b395bc42", func := "bolster/bolsterlaw12.ClaimCores", spec := "claimCores", unfollowed := true, recurses := true, named := ["math/bits.deBruijn32tab", "math/bits.deBruijn64tab"], apart := false, laid := [("math/bits.deBruijn32tab", laid_math_bits_deBruijn32tab), ("math/bits.deBruijn64tab", laid_math_bits_deBruijn64tab)], narrowed := true }
def ClaimCoresUptoSaid : Prop := claimCoresUptoRow.holds Tryd.pinned (OpenSpec.upto claimCoresSpec)

/-- 'bolsterlaw12.ClaimOdds', WHERE WHAT IT READS IS OF BULK AT MOST 1048576: true; the input reads as it did. -/
def claimOddsUptoRow : OpenClaim := { program := "ytpcjigdmfchbdaadoor", sum := "99932f8c2c4a9870dbec188c4cb6a7374eb574fb573e07dda499cb71b395bc42", func := "bolster/bolsterlaw12.ClaimOdds", spec := "claimOdds", unfollowed := true, recurses := true, named := ["math/bits.deBruijn32tab", "math/bits.deBruijn64tab"], apart := false, laid := [("math/bits.deBruijn32tab", laid_math_bits_deBruijn32tab), ("math/bits.deBruijn64tab", laid_math_bits_deBruijn64tab)], narrowed := true }
def ClaimOddsUptoSaid : Prop := claimOddsUptoRow.holds Tryd.pinned (OpenSpec.upto claimOddsSpec)

/-- 'bolsterlaw12.ClaimLemma', WHERE WHAT IT READS IS OF BULK AT MOST 1048576: true; the input reads as it did. -/
def claimLemmaUptoRow : OpenClaim := { program := "ytpcjigdmfchbdaadoor", sum := "99932f8c2c4a9870dbec188c4cb6a7374eb574fb573e07dda499cb71b395bc42", func := "bolster/bolsterlaw12.ClaimLemma", spec := "claimLemma", unfollowed := true, recurses := true, named := ["math/bits.deBruijn32tab", "math/bits.deBruijn64tab"], apart := false, laid := [("math/bits.deBruijn32tab", laid_math_bits_deBruijn32tab), ("math/bits.deBruijn64tab", laid_math_bits_deBruijn64tab)], narrowed := true }
def ClaimLemmaUptoSaid : Prop := claimLemmaUptoRow.holds Tryd.pinned (OpenSpec.upto claimLemmaSpec)

/-- 'bolsterlaw12.ClaimLeast', WHERE WHAT IT READS IS OF BULK AT MOST 1048576: true; the input reads as it did. -/
def claimLeastUptoRow : OpenClaim := { program := "ytpcjigdmfchbdaadoor", sum := "99932f8c2c4a9870dbec188c4cb6a7374eb574fb573e07dda499cb71b395bc42", func := "bolster/bolsterlaw12.ClaimLeast", spec := "claimLeast", unfollowed := true, recurses := true, named := ["math/bits.deBruijn32tab", "math/bits.deBruijn64tab"], apart := false, laid := [("math/bits.deBruijn32tab", laid_math_bits_deBruijn32tab), ("math/bits.deBruijn64tab", laid_math_bits_deBruijn64tab)], narrowed := true }
def ClaimLeastUptoSaid : Prop := claimLeastUptoRow.holds Tryd.pinned (OpenSpec.upto claimLeastSpec)

/-- 'bolsterlaw12.ClaimChain', WHERE WHAT IT READS IS OF BULK AT MOST 1048576: true; the input reads as it did. -/
def claimChainUptoRow : OpenClaim := { program := "ytpcjigdmfchbdaadoor", sum := "99932f8c2c4a9870dbec188c4cb6a7374eb574fb573e07dda499cb71b395bc42", func := "bolster/bolsterlaw12.ClaimChain", spec := "claimChain", unfollowed := true, recurses := true, named := ["math/bits.deBruijn32tab", "math/bits.deBruijn64tab"], apart := false, laid := [("math/bits.deBruijn32tab", laid_math_bits_deBruijn32tab), ("math/bits.deBruijn64tab", laid_math_bits_deBruijn64tab)], narrowed := true }
def ClaimChainUptoSaid : Prop := claimChainUptoRow.holds Tryd.pinned (OpenSpec.upto claimChainSpec)

/-- 'bolsterlaw12.ClaimIdeal', WHERE WHAT IT READS IS OF BULK AT MOST 1048576: true; the input reads as it did. -/
def claimIdealUptoRow : OpenClaim := { program := "ytpcjigdmfchbdaadoor", sum := "99932f8c2c4a9870dbec188c4cb6a7374eb574fb573e07dda499cb71b395bc42", func := "bolster/bolsterlaw12.ClaimIdeal", spec := "claimIdeal", unfollowed := true, recurses := true, named := ["math/bits.deBruijn32tab", "math/bits.deBruijn64tab"], apart := false, laid := [("math/bits.deBruijn32tab", laid_math_bits_deBruijn32tab), ("math/bits.deBruijn64tab", laid_math_bits_deBruijn64tab)], narrowed := true }
def ClaimIdealUptoSaid : Prop := claimIdealUptoRow.holds Tryd.pinned (OpenSpec.upto claimIdealSpec)

/-- 'bolsterlaw12.ClaimRings', WHERE WHAT IT READS IS OF BULK AT MOST 1048576: true; the input reads as it did. -/
def claimRingsUptoRow : OpenClaim := { program := "ytpcjigdmfchbdaadoor", sum := "99932f8c2c4a9870dbec188c4cb6a7374eb574fb573e07dda499cb71b395bc42", func := "bolster/bolsterlaw12.ClaimRings", spec := "claimRings", unfollowed := true, recurses := true, named := ["math/bits.deBruijn32tab", "math/bits.deBruijn64tab"], apart := false, laid := [("math/bits.deBruijn32tab", laid_math_bits_deBruijn32tab), ("math/bits.deBruijn64tab", laid_math_bits_deBruijn64tab)], narrowed := true }
def ClaimRingsUptoSaid : Prop := claimRingsUptoRow.holds Tryd.pinned (OpenSpec.upto claimRingsSpec)

/-- 'bolsterlaw12.ClaimCore', WHERE WHAT IT READS IS OF BULK AT MOST 1048576: true; the input reads as it did. -/
def claimCoreUptoRow : OpenClaim := { program := "ytpcjigdmfchbdaadoor", sum := "99932f8c2c4a9870dbec188c4cb6a7374eb574fb573e07dda499cb71b395bc42", func := "bolster/bolsterlaw12.ClaimCore", spec := "claimCore", unfollowed := true, recurses := true, named := ["math/bits.deBruijn32tab", "math/bits.deBruijn64tab"], apart := false, laid := [("math/bits.deBruijn32tab", laid_math_bits_deBruijn32tab), ("math/bits.deBruijn64tab", laid_math_bits_deBruijn64tab)], narrowed := true }
def ClaimCoreUptoSaid : Prop := claimCoreUptoRow.holds Tryd.pinned (OpenSpec.upto claimCoreSpec)

/-- 'bolsterlaw12.ClaimNames', WHERE WHAT IT READS IS OF BULK AT MOST 1048576: true; the input reads as it did. -/
def claimNamesUptoRow : OpenClaim := { program := "ytpcjigdmfchbdaadoor", sum := "99932f8c2c4a9870dbec188c4cb6a7374eb574fb573e07dda499cb71b395bc42", func := "bolster/bolsterlaw12.ClaimNames", spec := "claimNames", unfollowed := true, recurses := true, named := ["math/bits.deBruijn32tab", "math/bits.deBruijn64tab"], apart := false, laid := [("math/bits.deBruijn32tab", laid_math_bits_deBruijn32tab), ("math/bits.deBruijn64tab", laid_math_bits_deBruijn64tab)], narrowed := true }
def ClaimNamesUptoSaid : Prop := claimNamesUptoRow.holds Tryd.pinned (OpenSpec.upto claimNamesSpec)

end Rows
end Go.Proofs.YtpcjigdmfchbdaaDoor
