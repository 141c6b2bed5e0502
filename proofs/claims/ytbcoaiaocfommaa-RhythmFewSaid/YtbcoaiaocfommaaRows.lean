/-
  No cell of these rows narrows 'for every input' (looked for: loops, veiled, ifaces, maps, wideKeys, modest, calm, conditions, laid).
  DERIVED. THE GIVEN ROWS OF THIS SEAT. 18 by the template 'for every input the law returns true; each argument reads behind the call as it read before'; 0 by the template 'total and deterministic' (their statements: YtbcoaiaocfommaaTotals.lean).
  GIVEN WITH THE SEED: the statements are not yours to turn. If you find one false, say at which input.
  Laid BY PROGRAM, IN A SANDBOX (cutbox-rows.mjs): the forced cells as the released guide's own fill.sh prints them over the translation 6f6814868cfaecfa… (all of the seat's roots in one cut). By AI agents, Wed Nov 11 2026. No macro, syntax, notation, axiom, sorry.
-/
import Derived.Test.YtbcoaiaocfommaaChecked
import GoSem.Claim
import GoSem.ClaimJoined
import GoSem.ClaimMapViews
import Derived.JoinedTies
import Derived.KernelRfl
namespace Go.Proofs.Ytbcoaiaocfommaa
/- THE CELL 'sum', in the pinned program and in every row, IS THE sha256 OF THE DUMP (.gsa) THAT YtbcoaiaocfommaaProg.lean LOADS. Nothing in Lean hashes anything: it is a label: what it is worth is what the hold of that sum in a sandbox is worth. -/
noncomputable def Try.pinned : Pinned := { name := "ytbcoaiaocfommaa", sum := "6f6814868cfaecfa1b489c7f601168ac40b9f2916ec2f7489eadc2218c97b43d", checked := Try.checked }
namespace Rows
def none {H : Type} : Left H := { results := [], args := [] }

/-- 'bolsterlaw01.RhythmPeriods': WHATEVER THE INPUT: true; the input reads as it did. -/
def rhythmPeriodsSpec : ChangeSpec := { name := "rhythmPeriods", fn := fun _ => fun
  | [d] => { results := [.lit (.bool true)], args := [d] }
  | _ => none }
def rhythmPeriodsRow : OpenClaim := { program := "ytbcoaiaocfommaa", sum := "6f6814868cfaecfa1b489c7f601168ac40b9f2916ec2f7489eadc2218c97b43d", func := "bolster/bolsterlaw01.RhythmPeriods", spec := "rhythmPeriods", unfollowed := true, recurses := true, apart := false }
def RhythmPeriodsSaid : Prop := rhythmPeriodsRow.holds Try.pinned (OpenSpec.ofChange rhythmPeriodsSpec)

/-- ITS FALSE NEIGHBOUR: 'it returns false'. Refute it at one input. -/
def rhythmPeriodsWrong : ChangeSpec := { name := "rhythmPeriods", fn := fun _ => fun
  | [d] => { results := [.lit (.bool false)], args := [d] }
  | _ => none }
def RhythmPeriodsWrongFalsely : Prop := rhythmPeriodsRow.holds Try.pinned (OpenSpec.ofChange rhythmPeriodsWrong)

/-- 'bolsterlaw01.RhythmLyndons': WHATEVER THE INPUT: true; the input reads as it did. -/
def rhythmLyndonsSpec : ChangeSpec := { name := "rhythmLyndons", fn := fun _ => fun
  | [d] => { results := [.lit (.bool true)], args := [d] }
  | _ => none }
def rhythmLyndonsRow : OpenClaim := { program := "ytbcoaiaocfommaa", sum := "6f6814868cfaecfa1b489c7f601168ac40b9f2916ec2f7489eadc2218c97b43d", func := "bolster/bolsterlaw01.RhythmLyndons", spec := "rhythmLyndons", unfollowed := true, recurses := true, apart := false }
def RhythmLyndonsSaid : Prop := rhythmLyndonsRow.holds Try.pinned (OpenSpec.ofChange rhythmLyndonsSpec)

/-- ITS FALSE NEIGHBOUR: 'it returns false'. Refute it at one input. -/
def rhythmLyndonsWrong : ChangeSpec := { name := "rhythmLyndons", fn := fun _ => fun
  | [d] => { results := [.lit (.bool false)], args := [d] }
  | _ => none }
def RhythmLyndonsWrongFalsely : Prop := rhythmLyndonsRow.holds Try.pinned (OpenSpec.ofChange rhythmLyndonsWrong)

/-- 'bolsterlaw01.RhythmTurns': WHATEVER THE INPUT: true; the input reads as it did. -/
def rhythmTurnsSpec : ChangeSpec := { name := "rhythmTurns", fn := fun _ => fun
  | [d] => { results := [.lit (.bool true)], args := [d] }
  | _ => none }
def rhythmTurnsRow : OpenClaim := { program := "ytbcoaiaocfommaa", sum := "6f6814868cfaecfa1b489c7f601168ac40b9f2916ec2f7489eadc2218c97b43d", func := "bolster/bolsterlaw01.RhythmTurns", spec := "rhythmTurns", unfollowed := true, recurses := true, apart := false }
def RhythmTurnsSaid : Prop := rhythmTurnsRow.holds Try.pinned (OpenSpec.ofChange rhythmTurnsSpec)

/-- ITS FALSE NEIGHBOUR: 'it returns false'. Refute it at one input. -/
def rhythmTurnsWrong : ChangeSpec := { name := "rhythmTurns", fn := fun _ => fun
  | [d] => { results := [.lit (.bool false)], args := [d] }
  | _ => none }
def RhythmTurnsWrongFalsely : Prop := rhythmTurnsRow.holds Try.pinned (OpenSpec.ofChange rhythmTurnsWrong)

/-- 'bolsterlaw01.RhythmLocals': WHATEVER THE INPUT: true; the input reads as it did. -/
def rhythmLocalsSpec : ChangeSpec := { name := "rhythmLocals", fn := fun _ => fun
  | [d] => { results := [.lit (.bool true)], args := [d] }
  | _ => none }
def rhythmLocalsRow : OpenClaim := { program := "ytbcoaiaocfommaa", sum := "6f6814868cfaecfa1b489c7f601168ac40b9f2916ec2f7489eadc2218c97b43d", func := "bolster/bolsterlaw01.RhythmLocals", spec := "rhythmLocals", unfollowed := true, recurses := true, apart := false }
def RhythmLocalsSaid : Prop := rhythmLocalsRow.holds Try.pinned (OpenSpec.ofChange rhythmLocalsSpec)

/-- ITS FALSE NEIGHBOUR: 'it returns false'. Refute it at one input. -/
def rhythmLocalsWrong : ChangeSpec := { name := "rhythmLocals", fn := fun _ => fun
  | [d] => { results := [.lit (.bool false)], args := [d] }
  | _ => none }
def RhythmLocalsWrongFalsely : Prop := rhythmLocalsRow.holds Try.pinned (OpenSpec.ofChange rhythmLocalsWrong)

/-- 'bolsterlaw01.RhythmRuns': WHATEVER THE INPUT: true; the input reads as it did. -/
def rhythmRunsSpec : ChangeSpec := { name := "rhythmRuns", fn := fun _ => fun
  | [d] => { results := [.lit (.bool true)], args := [d] }
  | _ => none }
def rhythmRunsRow : OpenClaim := { program := "ytbcoaiaocfommaa", sum := "6f6814868cfaecfa1b489c7f601168ac40b9f2916ec2f7489eadc2218c97b43d", func := "bolster/bolsterlaw01.RhythmRuns", spec := "rhythmRuns", unfollowed := true, recurses := true, apart := false }
def RhythmRunsSaid : Prop := rhythmRunsRow.holds Try.pinned (OpenSpec.ofChange rhythmRunsSpec)

/-- ITS FALSE NEIGHBOUR: 'it returns false'. Refute it at one input. -/
def rhythmRunsWrong : ChangeSpec := { name := "rhythmRuns", fn := fun _ => fun
  | [d] => { results := [.lit (.bool false)], args := [d] }
  | _ => none }
def RhythmRunsWrongFalsely : Prop := rhythmRunsRow.holds Try.pinned (OpenSpec.ofChange rhythmRunsWrong)

/-- 'bolsterlaw01.RhythmSquares': WHATEVER THE INPUT: true; the input reads as it did. -/
def rhythmSquaresSpec : ChangeSpec := { name := "rhythmSquares", fn := fun _ => fun
  | [d] => { results := [.lit (.bool true)], args := [d] }
  | _ => none }
def rhythmSquaresRow : OpenClaim := { program := "ytbcoaiaocfommaa", sum := "6f6814868cfaecfa1b489c7f601168ac40b9f2916ec2f7489eadc2218c97b43d", func := "bolster/bolsterlaw01.RhythmSquares", spec := "rhythmSquares", unfollowed := true, recurses := true, apart := false }
def RhythmSquaresSaid : Prop := rhythmSquaresRow.holds Try.pinned (OpenSpec.ofChange rhythmSquaresSpec)

/-- ITS FALSE NEIGHBOUR: 'it returns false'. Refute it at one input. -/
def rhythmSquaresWrong : ChangeSpec := { name := "rhythmSquares", fn := fun _ => fun
  | [d] => { results := [.lit (.bool false)], args := [d] }
  | _ => none }
def RhythmSquaresWrongFalsely : Prop := rhythmSquaresRow.holds Try.pinned (OpenSpec.ofChange rhythmSquaresWrong)

/-- 'bolsterlaw01.RhythmBalances': WHATEVER THE INPUT: true; the input reads as it did. -/
def rhythmBalancesSpec : ChangeSpec := { name := "rhythmBalances", fn := fun _ => fun
  | [d] => { results := [.lit (.bool true)], args := [d] }
  | _ => none }
def rhythmBalancesRow : OpenClaim := { program := "ytbcoaiaocfommaa", sum := "6f6814868cfaecfa1b489c7f601168ac40b9f2916ec2f7489eadc2218c97b43d", func := "bolster/bolsterlaw01.RhythmBalances", spec := "rhythmBalances", inPlace := ["internal/bytealg.IndexByteString", "internal/bytealg.IndexString", "internal/bytealg.CountString"], unfollowed := true, recurses := true, named := ["internal/bytealg.MaxLen"], apart := false }
def RhythmBalancesSaid : Prop := rhythmBalancesRow.holds Try.pinned (OpenSpec.ofChange rhythmBalancesSpec)

/-- ITS FALSE NEIGHBOUR: 'it returns false'. Refute it at one input. -/
def rhythmBalancesWrong : ChangeSpec := { name := "rhythmBalances", fn := fun _ => fun
  | [d] => { results := [.lit (.bool false)], args := [d] }
  | _ => none }
def RhythmBalancesWrongFalsely : Prop := rhythmBalancesRow.holds Try.pinned (OpenSpec.ofChange rhythmBalancesWrong)

/-- 'bolsterlaw01.RhythmEvens': WHATEVER THE INPUT: true; the input reads as it did. -/
def rhythmEvensSpec : ChangeSpec := { name := "rhythmEvens", fn := fun _ => fun
  | [d1, d2] => { results := [.lit (.bool true)], args := [d1, d2] }
  | _ => none }
def rhythmEvensRow : OpenClaim := { program := "ytbcoaiaocfommaa", sum := "6f6814868cfaecfa1b489c7f601168ac40b9f2916ec2f7489eadc2218c97b43d", func := "bolster/bolsterlaw01.RhythmEvens", spec := "rhythmEvens", unfollowed := true, recurses := true, apart := false }
def RhythmEvensSaid : Prop := rhythmEvensRow.holds Try.pinned (OpenSpec.ofChange rhythmEvensSpec)

/-- ITS FALSE NEIGHBOUR: 'it returns false'. Refute it at one input. -/
def rhythmEvensWrong : ChangeSpec := { name := "rhythmEvens", fn := fun _ => fun
  | [d1, d2] => { results := [.lit (.bool false)], args := [d1, d2] }
  | _ => none }
def RhythmEvensWrongFalsely : Prop := rhythmEvensRow.holds Try.pinned (OpenSpec.ofChange rhythmEvensWrong)

/-- 'bolsterlaw01.RhythmGaps': WHATEVER THE INPUT: true; the input reads as it did. -/
def rhythmGapsSpec : ChangeSpec := { name := "rhythmGaps", fn := fun _ => fun
  | [d1, d2, d3] => { results := [.lit (.bool true)], args := [d1, d2, d3] }
  | _ => none }
def rhythmGapsRow : OpenClaim := { program := "ytbcoaiaocfommaa", sum := "6f6814868cfaecfa1b489c7f601168ac40b9f2916ec2f7489eadc2218c97b43d", func := "bolster/bolsterlaw01.RhythmGaps", spec := "rhythmGaps", unfollowed := true, recurses := true, apart := false }
def RhythmGapsSaid : Prop := rhythmGapsRow.holds Try.pinned (OpenSpec.ofChange rhythmGapsSpec)

/-- ITS FALSE NEIGHBOUR: 'it returns false'. Refute it at one input. -/
def rhythmGapsWrong : ChangeSpec := { name := "rhythmGaps", fn := fun _ => fun
  | [d1, d2, d3] => { results := [.lit (.bool false)], args := [d1, d2, d3] }
  | _ => none }
def RhythmGapsWrongFalsely : Prop := rhythmGapsRow.holds Try.pinned (OpenSpec.ofChange rhythmGapsWrong)

/-- 'bolsterlaw01.RhythmTwo': WHATEVER THE INPUT: true; the input reads as it did. -/
def rhythmTwoSpec : ChangeSpec := { name := "rhythmTwo", fn := fun _ => fun
  | [d1, d2] => { results := [.lit (.bool true)], args := [d1, d2] }
  | _ => none }
def rhythmTwoRow : OpenClaim := { program := "ytbcoaiaocfommaa", sum := "6f6814868cfaecfa1b489c7f601168ac40b9f2916ec2f7489eadc2218c97b43d", func := "bolster/bolsterlaw01.RhythmTwo", spec := "rhythmTwo", unfollowed := true, recurses := true, apart := false }
def RhythmTwoSaid : Prop := rhythmTwoRow.holds Try.pinned (OpenSpec.ofChange rhythmTwoSpec)

/-- ITS FALSE NEIGHBOUR: 'it returns false'. Refute it at one input. -/
def rhythmTwoWrong : ChangeSpec := { name := "rhythmTwo", fn := fun _ => fun
  | [d1, d2] => { results := [.lit (.bool false)], args := [d1, d2] }
  | _ => none }
def RhythmTwoWrongFalsely : Prop := rhythmTwoRow.holds Try.pinned (OpenSpec.ofChange rhythmTwoWrong)

/-- 'bolsterlaw01.RhythmWords': WHATEVER THE INPUT: true; the input reads as it did. -/
def rhythmWordsSpec : ChangeSpec := { name := "rhythmWords", fn := fun _ => fun
  | [d] => { results := [.lit (.bool true)], args := [d] }
  | _ => none }
def rhythmWordsRow : OpenClaim := { program := "ytbcoaiaocfommaa", sum := "6f6814868cfaecfa1b489c7f601168ac40b9f2916ec2f7489eadc2218c97b43d", func := "bolster/bolsterlaw01.RhythmWords", spec := "rhythmWords", unfollowed := true, recurses := true, apart := false }
def RhythmWordsSaid : Prop := rhythmWordsRow.holds Try.pinned (OpenSpec.ofChange rhythmWordsSpec)

/-- ITS FALSE NEIGHBOUR: 'it returns false'. Refute it at one input. -/
def rhythmWordsWrong : ChangeSpec := { name := "rhythmWords", fn := fun _ => fun
  | [d] => { results := [.lit (.bool false)], args := [d] }
  | _ => none }
def RhythmWordsWrongFalsely : Prop := rhythmWordsRow.holds Try.pinned (OpenSpec.ofChange rhythmWordsWrong)

/-- 'bolsterlaw01.RhythmCritical': WHATEVER THE INPUT: true; the input reads as it did. -/
def rhythmCriticalSpec : ChangeSpec := { name := "rhythmCritical", fn := fun _ => fun
  | [d] => { results := [.lit (.bool true)], args := [d] }
  | _ => none }
def rhythmCriticalRow : OpenClaim := { program := "ytbcoaiaocfommaa", sum := "6f6814868cfaecfa1b489c7f601168ac40b9f2916ec2f7489eadc2218c97b43d", func := "bolster/bolsterlaw01.RhythmCritical", spec := "rhythmCritical", unfollowed := true, recurses := true, apart := false }
def RhythmCriticalSaid : Prop := rhythmCriticalRow.holds Try.pinned (OpenSpec.ofChange rhythmCriticalSpec)

/-- ITS FALSE NEIGHBOUR: 'it returns false'. Refute it at one input. -/
def rhythmCriticalWrong : ChangeSpec := { name := "rhythmCritical", fn := fun _ => fun
  | [d] => { results := [.lit (.bool false)], args := [d] }
  | _ => none }
def RhythmCriticalWrongFalsely : Prop := rhythmCriticalRow.holds Try.pinned (OpenSpec.ofChange rhythmCriticalWrong)

/-- 'bolsterlaw01.RhythmFew': WHATEVER THE INPUT: true; the input reads as it did. -/
def rhythmFewSpec : ChangeSpec := { name := "rhythmFew", fn := fun _ => fun
  | [d] => { results := [.lit (.bool true)], args := [d] }
  | _ => none }
def rhythmFewRow : OpenClaim := { program := "ytbcoaiaocfommaa", sum := "6f6814868cfaecfa1b489c7f601168ac40b9f2916ec2f7489eadc2218c97b43d", func := "bolster/bolsterlaw01.RhythmFew", spec := "rhythmFew", unfollowed := true, recurses := true, apart := false }
def RhythmFewSaid : Prop := rhythmFewRow.holds Try.pinned (OpenSpec.ofChange rhythmFewSpec)

/-- ITS FALSE NEIGHBOUR: 'it returns false'. Refute it at one input. -/
def rhythmFewWrong : ChangeSpec := { name := "rhythmFew", fn := fun _ => fun
  | [d] => { results := [.lit (.bool false)], args := [d] }
  | _ => none }
def RhythmFewWrongFalsely : Prop := rhythmFewRow.holds Try.pinned (OpenSpec.ofChange rhythmFewWrong)

/-- 'bolsterlaw01.RhythmChristoffel': WHATEVER THE INPUT: true; the input reads as it did. -/
def rhythmChristoffelSpec : ChangeSpec := { name := "rhythmChristoffel", fn := fun _ => fun
  | [d1, d2] => { results := [.lit (.bool true)], args := [d1, d2] }
  | _ => none }
def rhythmChristoffelRow : OpenClaim := { program := "ytbcoaiaocfommaa", sum := "6f6814868cfaecfa1b489c7f601168ac40b9f2916ec2f7489eadc2218c97b43d", func := "bolster/bolsterlaw01.RhythmChristoffel", spec := "rhythmChristoffel", inPlace := ["internal/bytealg.IndexByteString", "internal/bytealg.IndexString", "internal/bytealg.CountString"], unfollowed := true, recurses := true, named := ["internal/bytealg.MaxLen"], apart := false }
def RhythmChristoffelSaid : Prop := rhythmChristoffelRow.holds Try.pinned (OpenSpec.ofChange rhythmChristoffelSpec)

/-- ITS FALSE NEIGHBOUR: 'it returns false'. Refute it at one input. -/
def rhythmChristoffelWrong : ChangeSpec := { name := "rhythmChristoffel", fn := fun _ => fun
  | [d1, d2] => { results := [.lit (.bool false)], args := [d1, d2] }
  | _ => none }
def RhythmChristoffelWrongFalsely : Prop := rhythmChristoffelRow.holds Try.pinned (OpenSpec.ofChange rhythmChristoffelWrong)

/-- 'bolsterlaw01.RhythmEven': WHATEVER THE INPUT: true; the input reads as it did. -/
def rhythmEvenSpec : ChangeSpec := { name := "rhythmEven", fn := fun _ => fun
  | [d] => { results := [.lit (.bool true)], args := [d] }
  | _ => none }
def rhythmEvenRow : OpenClaim := { program := "ytbcoaiaocfommaa", sum := "6f6814868cfaecfa1b489c7f601168ac40b9f2916ec2f7489eadc2218c97b43d", func := "bolster/bolsterlaw01.RhythmEven", spec := "rhythmEven", inPlace := ["internal/bytealg.IndexByteString", "internal/bytealg.IndexString", "internal/bytealg.CountString"], unfollowed := true, recurses := true, named := ["internal/bytealg.MaxLen"], apart := false }
def RhythmEvenSaid : Prop := rhythmEvenRow.holds Try.pinned (OpenSpec.ofChange rhythmEvenSpec)

/-- ITS FALSE NEIGHBOUR: 'it returns false'. Refute it at one input. -/
def rhythmEvenWrong : ChangeSpec := { name := "rhythmEven", fn := fun _ => fun
  | [d] => { results := [.lit (.bool false)], args := [d] }
  | _ => none }
def RhythmEvenWrongFalsely : Prop := rhythmEvenRow.holds Try.pinned (OpenSpec.ofChange rhythmEvenWrong)

/-- 'bolsterlaw01.RhythmThree': WHATEVER THE INPUT: true; the input reads as it did. -/
def rhythmThreeSpec : ChangeSpec := { name := "rhythmThree", fn := fun _ => fun
  | [d1, d2, d3] => { results := [.lit (.bool true)], args := [d1, d2, d3] }
  | _ => none }
def rhythmThreeRow : OpenClaim := { program := "ytbcoaiaocfommaa", sum := "6f6814868cfaecfa1b489c7f601168ac40b9f2916ec2f7489eadc2218c97b43d", func := "bolster/bolsterlaw01.RhythmThree", spec := "rhythmThree", unfollowed := true, recurses := true, apart := false }
def RhythmThreeSaid : Prop := rhythmThreeRow.holds Try.pinned (OpenSpec.ofChange rhythmThreeSpec)

/-- ITS FALSE NEIGHBOUR: 'it returns false'. Refute it at one input. -/
def rhythmThreeWrong : ChangeSpec := { name := "rhythmThree", fn := fun _ => fun
  | [d1, d2, d3] => { results := [.lit (.bool false)], args := [d1, d2, d3] }
  | _ => none }
def RhythmThreeWrongFalsely : Prop := rhythmThreeRow.holds Try.pinned (OpenSpec.ofChange rhythmThreeWrong)

/-- 'bolsterlaw01.RhythmRotations': WHATEVER THE INPUT: true; the input reads as it did. -/
def rhythmRotationsSpec : ChangeSpec := { name := "rhythmRotations", fn := fun _ => fun
  | [d1, d2] => { results := [.lit (.bool true)], args := [d1, d2] }
  | _ => none }
def rhythmRotationsRow : OpenClaim := { program := "ytbcoaiaocfommaa", sum := "6f6814868cfaecfa1b489c7f601168ac40b9f2916ec2f7489eadc2218c97b43d", func := "bolster/bolsterlaw01.RhythmRotations", spec := "rhythmRotations", unfollowed := true, recurses := true, apart := false }
def RhythmRotationsSaid : Prop := rhythmRotationsRow.holds Try.pinned (OpenSpec.ofChange rhythmRotationsSpec)

/-- ITS FALSE NEIGHBOUR: 'it returns false'. Refute it at one input. -/
def rhythmRotationsWrong : ChangeSpec := { name := "rhythmRotations", fn := fun _ => fun
  | [d1, d2] => { results := [.lit (.bool false)], args := [d1, d2] }
  | _ => none }
def RhythmRotationsWrongFalsely : Prop := rhythmRotationsRow.holds Try.pinned (OpenSpec.ofChange rhythmRotationsWrong)

/-- 'bolsterlaw01.RhythmReversed': WHATEVER THE INPUT: true; the input reads as it did. -/
def rhythmReversedSpec : ChangeSpec := { name := "rhythmReversed", fn := fun _ => fun
  | [d] => { results := [.lit (.bool true)], args := [d] }
  | _ => none }
def rhythmReversedRow : OpenClaim := { program := "ytbcoaiaocfommaa", sum := "6f6814868cfaecfa1b489c7f601168ac40b9f2916ec2f7489eadc2218c97b43d", func := "bolster/bolsterlaw01.RhythmReversed", spec := "rhythmReversed", inPlace := ["internal/bytealg.IndexByteString", "internal/bytealg.IndexString", "internal/bytealg.CountString"], unfollowed := true, recurses := true, named := ["internal/bytealg.MaxLen"], apart := false }
def RhythmReversedSaid : Prop := rhythmReversedRow.holds Try.pinned (OpenSpec.ofChange rhythmReversedSpec)

/-- ITS FALSE NEIGHBOUR: 'it returns false'. Refute it at one input. -/
def rhythmReversedWrong : ChangeSpec := { name := "rhythmReversed", fn := fun _ => fun
  | [d] => { results := [.lit (.bool false)], args := [d] }
  | _ => none }
def RhythmReversedWrongFalsely : Prop := rhythmReversedRow.holds Try.pinned (OpenSpec.ofChange rhythmReversedWrong)

/- THE SECOND FORM. 'bulk': how many values and letters a reading holds, each counted each time it is reached (what is shared counts as often as it is met; a slice's spare places count too). A statement '..UptoSaid' is the law's where the arguments, and the package variables that the reading takes, are together of bulk at most 1048576: NARROWER than '..Said'. Prove '..Said' where nothing that the law and all that it calls make is longer than what came in: it says more and counts as full. Else prove '..UptoSaid'. A law counts once. -/
mutual
def uptoBulk {H : Type} : DataW H → Nat
  | .lit (.string bytes) => bytes.length + 1
  | .lit _ => 1
  | .nil => 1
  | .ptr d => uptoBulk d + 1
  | .slice elems spare => uptoBulkAll elems + uptoBulkAll spare + 1
  | .agg parts => uptoBulkAll parts + 1
  | .iface _ d => uptoBulk d + 1
  | .map entries => uptoBulkEntries entries + 1
  | .held _ => 1
def uptoBulkAll {H : Type} : List (DataW H) → Nat
  | [] => 0
  | d :: r => uptoBulk d + uptoBulkAll r
def uptoBulkEntries {H : Type} : List (Lit × DataW H) → Nat
  | [] => 0
  | x :: r => uptoBulkEntry x + uptoBulkEntries r
def uptoBulkEntry {H : Type} : Lit × DataW H → Nat
  | (.string bytes, d) => bytes.length + uptoBulk d + 1
  | (_, d) => uptoBulk d + 1
 end
def uptoSmall : (H : Type) → List (DataW H) → Bool := fun _ ds => decide (uptoBulkAll ds ≤ 1048576)
def OpenSpec.upto (s : _root_.Go.ChangeSpec) : _root_.Go.OpenSpec := { _root_.Go.OpenSpec.ofChange s with cond := some uptoSmall }

/-- 'bolsterlaw01.RhythmPeriods', WHERE WHAT IT READS IS OF BULK AT MOST 1048576: true; the input reads as it did. -/
def rhythmPeriodsUptoRow : OpenClaim := { program := "ytbcoaiaocfommaa", sum := "6f6814868cfaecfa1b489c7f601168ac40b9f2916ec2f7489eadc2218c97b43d", func := "bolster/bolsterlaw01.RhythmPeriods", spec := "rhythmPeriods", unfollowed := true, recurses := true, apart := false, narrowed := true }
def RhythmPeriodsUptoSaid : Prop := rhythmPeriodsUptoRow.holds Try.pinned (OpenSpec.upto rhythmPeriodsSpec)

/-- 'bolsterlaw01.RhythmLyndons', WHERE WHAT IT READS IS OF BULK AT MOST 1048576: true; the input reads as it did. -/
def rhythmLyndonsUptoRow : OpenClaim := { program := "ytbcoaiaocfommaa", sum := "6f6814868cfaecfa1b489c7f601168ac40b9f2916ec2f7489eadc2218c97b43d", func := "bolster/bolsterlaw01.RhythmLyndons", spec := "rhythmLyndons", unfollowed := true, recurses := true, apart := false, narrowed := true }
def RhythmLyndonsUptoSaid : Prop := rhythmLyndonsUptoRow.holds Try.pinned (OpenSpec.upto rhythmLyndonsSpec)

/-- 'bolsterlaw01.RhythmTurns', WHERE WHAT IT READS IS OF BULK AT MOST 1048576: true; the input reads as it did. -/
def rhythmTurnsUptoRow : OpenClaim := { program := "ytbcoaiaocfommaa", sum := "6f6814868cfaecfa1b489c7f601168ac40b9f2916ec2f7489eadc2218c97b43d", func := "bolster/bolsterlaw01.RhythmTurns", spec := "rhythmTurns", unfollowed := true, recurses := true, apart := false, narrowed := true }
def RhythmTurnsUptoSaid : Prop := rhythmTurnsUptoRow.holds Try.pinned (OpenSpec.upto rhythmTurnsSpec)

/-- 'bolsterlaw01.RhythmLocals', WHERE WHAT IT READS IS OF BULK AT MOST 1048576: true; the input reads as it did. -/
def rhythmLocalsUptoRow : OpenClaim := { program := "ytbcoaiaocfommaa", sum := "6f6814868cfaecfa1b489c7f601168ac40b9f2916ec2f7489eadc2218c97b43d", func := "bolster/bolsterlaw01.RhythmLocals", spec := "rhythmLocals", unfollowed := true, recurses := true, apart := false, narrowed := true }
def RhythmLocalsUptoSaid : Prop := rhythmLocalsUptoRow.holds Try.pinned (OpenSpec.upto rhythmLocalsSpec)

/-- 'bolsterlaw01.RhythmRuns', WHERE WHAT IT READS IS OF BULK AT MOST 1048576: true; the input reads as it did. -/
def rhythmRunsUptoRow : OpenClaim := { program := "ytbcoaiaocfommaa", sum := "6f6814868cfaecfa1b489c7f601168ac40b9f2916ec2f7489eadc2218c97b43d", func := "bolster/bolsterlaw01.RhythmRuns", spec := "rhythmRuns", unfollowed := true, recurses := true, apart := false, narrowed := true }
def RhythmRunsUptoSaid : Prop := rhythmRunsUptoRow.holds Try.pinned (OpenSpec.upto rhythmRunsSpec)

/-- 'bolsterlaw01.RhythmSquares', WHERE WHAT IT READS IS OF BULK AT MOST 1048576: true; the input reads as it did. -/
def rhythmSquaresUptoRow : OpenClaim := { program := "ytbcoaiaocfommaa", sum := "6f6814868cfaecfa1b489c7f601168ac40b9f2916ec2f7489eadc2218c97b43d", func := "bolster/bolsterlaw01.RhythmSquares", spec := "rhythmSquares", unfollowed := true, recurses := true, apart := false, narrowed := true }
def RhythmSquaresUptoSaid : Prop := rhythmSquaresUptoRow.holds Try.pinned (OpenSpec.upto rhythmSquaresSpec)

/-- 'bolsterlaw01.RhythmBalances', WHERE WHAT IT READS IS OF BULK AT MOST 1048576: true; the input reads as it did. -/
def rhythmBalancesUptoRow : OpenClaim := { program := "ytbcoaiaocfommaa", sum := "6f6814868cfaecfa1b489c7f601168ac40b9f2916ec2f7489eadc2218c97b43d", func := "bolster/bolsterlaw01.RhythmBalances", spec := "rhythmBalances", inPlace := ["internal/bytealg.IndexByteString", "internal/bytealg.IndexString", "internal/bytealg.CountString"], unfollowed := true, recurses := true, named := ["internal/bytealg.MaxLen"], apart := false, narrowed := true }
def RhythmBalancesUptoSaid : Prop := rhythmBalancesUptoRow.holds Try.pinned (OpenSpec.upto rhythmBalancesSpec)

/-- 'bolsterlaw01.RhythmEvens', WHERE WHAT IT READS IS OF BULK AT MOST 1048576: true; the input reads as it did. -/
def rhythmEvensUptoRow : OpenClaim := { program := "ytbcoaiaocfommaa", sum := "6f6814868cfaecfa1b489c7f601168ac40b9f2916ec2f7489eadc2218c97b43d", func := "bolster/bolsterlaw01.RhythmEvens", spec := "rhythmEvens", unfollowed := true, recurses := true, apart := false, narrowed := true }
def RhythmEvensUptoSaid : Prop := rhythmEvensUptoRow.holds Try.pinned (OpenSpec.upto rhythmEvensSpec)

/-- 'bolsterlaw01.RhythmGaps', WHERE WHAT IT READS IS OF BULK AT MOST 1048576: true; the input reads as it did. -/
def rhythmGapsUptoRow : OpenClaim := { program := "ytbcoaiaocfommaa", sum := "6f6814868cfaecfa1b489c7f601168ac40b9f2916ec2f7489eadc2218c97b43d", func := "bolster/bolsterlaw01.RhythmGaps", spec := "rhythmGaps", unfollowed := true, recurses := true, apart := false, narrowed := true }
def RhythmGapsUptoSaid : Prop := rhythmGapsUptoRow.holds Try.pinned (OpenSpec.upto rhythmGapsSpec)

/-- 'bolsterlaw01.RhythmTwo', WHERE WHAT IT READS IS OF BULK AT MOST 1048576: true; the input reads as it did. -/
def rhythmTwoUptoRow : OpenClaim := { program := "ytbcoaiaocfommaa", sum := "6f6814868cfaecfa1b489c7f601168ac40b9f2916ec2f7489eadc2218c97b43d", func := "bolster/bolsterlaw01.RhythmTwo", spec := "rhythmTwo", unfollowed := true, recurses := true, apart := false, narrowed := true }
def RhythmTwoUptoSaid : Prop := rhythmTwoUptoRow.holds Try.pinned (OpenSpec.upto rhythmTwoSpec)

/-- 'bolsterlaw01.RhythmWords', WHERE WHAT IT READS IS OF BULK AT MOST 1048576: true; the input reads as it did. -/
def rhythmWordsUptoRow : OpenClaim := { program := "ytbcoaiaocfommaa", sum := "6f6814868cfaecfa1b489c7f601168ac40b9f2916ec2f7489eadc2218c97b43d", func := "bolster/bolsterlaw01.RhythmWords", spec := "rhythmWords", unfollowed := true, recurses := true, apart := false, narrowed := true }
def RhythmWordsUptoSaid : Prop := rhythmWordsUptoRow.holds Try.pinned (OpenSpec.upto rhythmWordsSpec)

/-- 'bolsterlaw01.RhythmCritical', WHERE WHAT IT READS IS OF BULK AT MOST 1048576: true; the input reads as it did. -/
def rhythmCriticalUptoRow : OpenClaim := { program := "ytbcoaiaocfommaa", sum := "6f6814868cfaecfa1b489c7f601168ac40b9f2916ec2f7489eadc2218c97b43d", func := "bolster/bolsterlaw01.RhythmCritical", spec := "rhythmCritical", unfollowed := true, recurses := true, apart := false, narrowed := true }
def RhythmCriticalUptoSaid : Prop := rhythmCriticalUptoRow.holds Try.pinned (OpenSpec.upto rhythmCriticalSpec)

/-- 'bolsterlaw01.RhythmFew', WHERE WHAT IT READS IS OF BULK AT MOST 1048576: true; the input reads as it did. -/
def rhythmFewUptoRow : OpenClaim := { program := "ytbcoaiaocfommaa", sum := "6f6814868cfaecfa1b489c7f601168ac40b9f2916ec2f7489eadc2218c97b43d", func := "bolster/bolsterlaw01.RhythmFew", spec := "rhythmFew", unfollowed := true, recurses := true, apart := false, narrowed := true }
def RhythmFewUptoSaid : Prop := rhythmFewUptoRow.holds Try.pinned (OpenSpec.upto rhythmFewSpec)

/-- 'bolsterlaw01.RhythmChristoffel', WHERE WHAT IT READS IS OF BULK AT MOST 1048576: true; the input reads as it did. -/
def rhythmChristoffelUptoRow : OpenClaim := { program := "ytbcoaiaocfommaa", sum := "6f6814868cfaecfa1b489c7f601168ac40b9f2916ec2f7489eadc2218c97b43d", func := "bolster/bolsterlaw01.RhythmChristoffel", spec := "rhythmChristoffel", inPlace := ["internal/bytealg.IndexByteString", "internal/bytealg.IndexString", "internal/bytealg.CountString"], unfollowed := true, recurses := true, named := ["internal/bytealg.MaxLen"], apart := false, narrowed := true }
def RhythmChristoffelUptoSaid : Prop := rhythmChristoffelUptoRow.holds Try.pinned (OpenSpec.upto rhythmChristoffelSpec)

/-- 'bolsterlaw01.RhythmEven', WHERE WHAT IT READS IS OF BULK AT MOST 1048576: true; the input reads as it did. -/
def rhythmEvenUptoRow : OpenClaim := { program := "ytbcoaiaocfommaa", sum := "6f6814868cfaecfa1b489c7f601168ac40b9f2916ec2f7489eadc2218c97b43d", func := "bolster/bolsterlaw01.RhythmEven", spec := "rhythmEven", inPlace := ["internal/bytealg.IndexByteString", "internal/bytealg.IndexString", "internal/bytealg.CountString"], unfollowed := true, recurses := true, named := ["internal/bytealg.MaxLen"], apart := false, narrowed := true }
def RhythmEvenUptoSaid : Prop := rhythmEvenUptoRow.holds Try.pinned (OpenSpec.upto rhythmEvenSpec)

/-- 'bolsterlaw01.RhythmThree', WHERE WHAT IT READS IS OF BULK AT MOST 1048576: true; the input reads as it did. -/
def rhythmThreeUptoRow : OpenClaim := { program := "ytbcoaiaocfommaa", sum := "6f6814868cfaecfa1b489c7f601168ac40b9f2916ec2f7489eadc2218c97b43d", func := "bolster/bolsterlaw01.RhythmThree", spec := "rhythmThree", unfollowed := true, recurses := true, apart := false, narrowed := true }
def RhythmThreeUptoSaid : Prop := rhythmThreeUptoRow.holds Try.pinned (OpenSpec.upto rhythmThreeSpec)

/-- 'bolsterlaw01.RhythmRotations', WHERE WHAT IT READS IS OF BULK AT MOST 1048576: true; the input reads as it did. -/
def rhythmRotationsUptoRow : OpenClaim := { program := "ytbcoaiaocfommaa", sum := "6f6814868cfaecfa1b489c7f601168ac40b9f2916ec2f7489eadc2218c97b43d", func := "bolster/bolsterlaw01.RhythmRotations", spec := "rhythmRotations", unfollowed := true, recurses := true, apart := false, narrowed := true }
def RhythmRotationsUptoSaid : Prop := rhythmRotationsUptoRow.holds Try.pinned (OpenSpec.upto rhythmRotationsSpec)

/-- 'bolsterlaw01.RhythmReversed', WHERE WHAT IT READS IS OF BULK AT MOST 1048576: true; the input reads as it did. -/
def rhythmReversedUptoRow : OpenClaim := { program := "ytbcoaiaocfommaa", sum := "6f6814868cfaecfa1b489c7f601168ac40b9f2916ec2f7489eadc2218c97b43d", func := "bolster/bolsterlaw01.RhythmReversed", spec := "rhythmReversed", inPlace := ["internal/bytealg.IndexByteString", "internal/bytealg.IndexString", "internal/bytealg.CountString"], unfollowed := true, recurses := true, named := ["internal/bytealg.MaxLen"], apart := false, narrowed := true }
def RhythmReversedUptoSaid : Prop := rhythmReversedUptoRow.holds Try.pinned (OpenSpec.upto rhythmReversedSpec)

end Rows
end Go.Proofs.Ytbcoaiaocfommaa
