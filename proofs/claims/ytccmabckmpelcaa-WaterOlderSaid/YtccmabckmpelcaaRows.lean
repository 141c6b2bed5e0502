/-
  No cell of these rows narrows 'for every input' (looked for: loops, veiled, ifaces, maps, wideKeys, modest, calm, conditions, laid).
  DERIVED. THE GIVEN ROWS OF THIS SEAT. 12 by the template 'for every input the law returns true; each argument reads behind the call as it read before'; 0 by the template 'total and deterministic' (their statements: YtccmabckmpelcaaTotals.lean).
  GIVEN WITH THE SEED: the statements are not yours to turn. If you find one false, say at which input.
  Laid BY PROGRAM, IN A SANDBOX (cutbox-rows.mjs): the forced cells as the released guide's own fill.sh prints them over the translation f7af60a5542a20e2… (all of the seat's roots in one cut). By AI agents, Wed Nov 11 2026. No macro, syntax, notation, axiom, sorry.
-/
import Derived.Test.YtccmabckmpelcaaChecked
import GoSem.Claim
import GoSem.ClaimJoined
import GoSem.ClaimMapViews
import Derived.JoinedTies
import Derived.KernelRfl
namespace Go.Proofs.Ytccmabckmpelcaa
/- THE CELL 'sum', in the pinned program and in every row, IS THE sha256 OF THE DUMP (.gsa) THAT YtccmabckmpelcaaProg.lean LOADS. Nothing in Lean hashes anything: it is a label: what it is worth is what the hold of that sum in a sandbox is worth. -/
noncomputable def Try.pinned : Pinned := { name := "ytccmabckmpelcaa", sum := "f7af60a5542a20e2797ea9a399ae8dbf5a522b1997f5ac13ffb99a7d07ad47de", checked := Try.checked }
namespace Rows
def none {H : Type} : Left H := { results := [], args := [] }

/-- 'bolsterlaw03.WaterWorths': WHATEVER THE INPUT: true; the input reads as it did. -/
def waterWorthsSpec : ChangeSpec := { name := "waterWorths", fn := fun _ => fun
  | [d1, d2] => { results := [.lit (.bool true)], args := [d1, d2] }
  | _ => none }
def waterWorthsRow : OpenClaim := { program := "ytccmabckmpelcaa", sum := "f7af60a5542a20e2797ea9a399ae8dbf5a522b1997f5ac13ffb99a7d07ad47de", func := "bolster/bolsterlaw03.WaterWorths", spec := "waterWorths", apart := false }
def WaterWorthsSaid : Prop := waterWorthsRow.holds Try.pinned (OpenSpec.ofChange waterWorthsSpec)

/-- ITS FALSE NEIGHBOUR: 'it returns false'. Refute it at one input. -/
def waterWorthsWrong : ChangeSpec := { name := "waterWorths", fn := fun _ => fun
  | [d1, d2] => { results := [.lit (.bool false)], args := [d1, d2] }
  | _ => none }
def WaterWorthsWrongFalsely : Prop := waterWorthsRow.holds Try.pinned (OpenSpec.ofChange waterWorthsWrong)

/-- 'bolsterlaw03.WaterBests': WHATEVER THE INPUT: true; the input reads as it did. -/
def waterBestsSpec : ChangeSpec := { name := "waterBests", fn := fun _ => fun
  | [d] => { results := [.lit (.bool true)], args := [d] }
  | _ => none }
def waterBestsRow : OpenClaim := { program := "ytccmabckmpelcaa", sum := "f7af60a5542a20e2797ea9a399ae8dbf5a522b1997f5ac13ffb99a7d07ad47de", func := "bolster/bolsterlaw03.WaterBests", spec := "waterBests", apart := false }
def WaterBestsSaid : Prop := waterBestsRow.holds Try.pinned (OpenSpec.ofChange waterBestsSpec)

/-- ITS FALSE NEIGHBOUR: 'it returns false'. Refute it at one input. -/
def waterBestsWrong : ChangeSpec := { name := "waterBests", fn := fun _ => fun
  | [d] => { results := [.lit (.bool false)], args := [d] }
  | _ => none }
def WaterBestsWrongFalsely : Prop := waterBestsRow.holds Try.pinned (OpenSpec.ofChange waterBestsWrong)

/-- 'bolsterlaw03.WaterGroups': WHATEVER THE INPUT: true; the input reads as it did. -/
def waterGroupsSpec : ChangeSpec := { name := "waterGroups", fn := fun _ => fun
  | [d1, d2] => { results := [.lit (.bool true)], args := [d1, d2] }
  | _ => none }
def waterGroupsRow : OpenClaim := { program := "ytccmabckmpelcaa", sum := "f7af60a5542a20e2797ea9a399ae8dbf5a522b1997f5ac13ffb99a7d07ad47de", func := "bolster/bolsterlaw03.WaterGroups", spec := "waterGroups", apart := false }
def WaterGroupsSaid : Prop := waterGroupsRow.holds Try.pinned (OpenSpec.ofChange waterGroupsSpec)

/-- ITS FALSE NEIGHBOUR: 'it returns false'. Refute it at one input. -/
def waterGroupsWrong : ChangeSpec := { name := "waterGroups", fn := fun _ => fun
  | [d1, d2] => { results := [.lit (.bool false)], args := [d1, d2] }
  | _ => none }
def WaterGroupsWrongFalsely : Prop := waterGroupsRow.holds Try.pinned (OpenSpec.ofChange waterGroupsWrong)

/-- 'bolsterlaw03.WaterShares': WHATEVER THE INPUT: true; the input reads as it did. -/
def waterSharesSpec : ChangeSpec := { name := "waterShares", fn := fun _ => fun
  | [d] => { results := [.lit (.bool true)], args := [d] }
  | _ => none }
def waterSharesRow : OpenClaim := { program := "ytccmabckmpelcaa", sum := "f7af60a5542a20e2797ea9a399ae8dbf5a522b1997f5ac13ffb99a7d07ad47de", func := "bolster/bolsterlaw03.WaterShares", spec := "waterShares", apart := false }
def WaterSharesSaid : Prop := waterSharesRow.holds Try.pinned (OpenSpec.ofChange waterSharesSpec)

/-- ITS FALSE NEIGHBOUR: 'it returns false'. Refute it at one input. -/
def waterSharesWrong : ChangeSpec := { name := "waterShares", fn := fun _ => fun
  | [d] => { results := [.lit (.bool false)], args := [d] }
  | _ => none }
def WaterSharesWrongFalsely : Prop := waterSharesRow.holds Try.pinned (OpenSpec.ofChange waterSharesWrong)

/-- 'bolsterlaw03.WaterCalls': WHATEVER THE INPUT: true; the input reads as it did. -/
def waterCallsSpec : ChangeSpec := { name := "waterCalls", fn := fun _ => fun
  | [d1, d2, d3] => { results := [.lit (.bool true)], args := [d1, d2, d3] }
  | _ => none }
def waterCallsRow : OpenClaim := { program := "ytccmabckmpelcaa", sum := "f7af60a5542a20e2797ea9a399ae8dbf5a522b1997f5ac13ffb99a7d07ad47de", func := "bolster/bolsterlaw03.WaterCalls", spec := "waterCalls", apart := false }
def WaterCallsSaid : Prop := waterCallsRow.holds Try.pinned (OpenSpec.ofChange waterCallsSpec)

/-- ITS FALSE NEIGHBOUR: 'it returns false'. Refute it at one input. -/
def waterCallsWrong : ChangeSpec := { name := "waterCalls", fn := fun _ => fun
  | [d1, d2, d3] => { results := [.lit (.bool false)], args := [d1, d2, d3] }
  | _ => none }
def WaterCallsWrongFalsely : Prop := waterCallsRow.holds Try.pinned (OpenSpec.ofChange waterCallsWrong)

/-- 'bolsterlaw03.WaterBest': WHATEVER THE INPUT: true; the input reads as it did. -/
def waterBestSpec : ChangeSpec := { name := "waterBest", fn := fun _ => fun
  | [d1, d2] => { results := [.lit (.bool true)], args := [d1, d2] }
  | _ => none }
def waterBestRow : OpenClaim := { program := "ytccmabckmpelcaa", sum := "f7af60a5542a20e2797ea9a399ae8dbf5a522b1997f5ac13ffb99a7d07ad47de", func := "bolster/bolsterlaw03.WaterBest", spec := "waterBest", apart := false }
def WaterBestSaid : Prop := waterBestRow.holds Try.pinned (OpenSpec.ofChange waterBestSpec)

/-- ITS FALSE NEIGHBOUR: 'it returns false'. Refute it at one input. -/
def waterBestWrong : ChangeSpec := { name := "waterBest", fn := fun _ => fun
  | [d1, d2] => { results := [.lit (.bool false)], args := [d1, d2] }
  | _ => none }
def WaterBestWrongFalsely : Prop := waterBestRow.holds Try.pinned (OpenSpec.ofChange waterBestWrong)

/-- 'bolsterlaw03.WaterFair': WHATEVER THE INPUT: true; the input reads as it did. -/
def waterFairSpec : ChangeSpec := { name := "waterFair", fn := fun _ => fun
  | [d] => { results := [.lit (.bool true)], args := [d] }
  | _ => none }
def waterFairRow : OpenClaim := { program := "ytccmabckmpelcaa", sum := "f7af60a5542a20e2797ea9a399ae8dbf5a522b1997f5ac13ffb99a7d07ad47de", func := "bolster/bolsterlaw03.WaterFair", spec := "waterFair", apart := false }
def WaterFairSaid : Prop := waterFairRow.holds Try.pinned (OpenSpec.ofChange waterFairSpec)

/-- ITS FALSE NEIGHBOUR: 'it returns false'. Refute it at one input. -/
def waterFairWrong : ChangeSpec := { name := "waterFair", fn := fun _ => fun
  | [d] => { results := [.lit (.bool false)], args := [d] }
  | _ => none }
def WaterFairWrongFalsely : Prop := waterFairRow.holds Try.pinned (OpenSpec.ofChange waterFairWrong)

/-- 'bolsterlaw03.WaterOnly': WHATEVER THE INPUT: true; the input reads as it did. -/
def waterOnlySpec : ChangeSpec := { name := "waterOnly", fn := fun _ => fun
  | [d1, d2] => { results := [.lit (.bool true)], args := [d1, d2] }
  | _ => none }
def waterOnlyRow : OpenClaim := { program := "ytccmabckmpelcaa", sum := "f7af60a5542a20e2797ea9a399ae8dbf5a522b1997f5ac13ffb99a7d07ad47de", func := "bolster/bolsterlaw03.WaterOnly", spec := "waterOnly", apart := false }
def WaterOnlySaid : Prop := waterOnlyRow.holds Try.pinned (OpenSpec.ofChange waterOnlySpec)

/-- ITS FALSE NEIGHBOUR: 'it returns false'. Refute it at one input. -/
def waterOnlyWrong : ChangeSpec := { name := "waterOnly", fn := fun _ => fun
  | [d1, d2] => { results := [.lit (.bool false)], args := [d1, d2] }
  | _ => none }
def WaterOnlyWrongFalsely : Prop := waterOnlyRow.holds Try.pinned (OpenSpec.ofChange waterOnlyWrong)

/-- 'bolsterlaw03.WaterMarginal': WHATEVER THE INPUT: true; the input reads as it did. -/
def waterMarginalSpec : ChangeSpec := { name := "waterMarginal", fn := fun _ => fun
  | [d] => { results := [.lit (.bool true)], args := [d] }
  | _ => none }
def waterMarginalRow : OpenClaim := { program := "ytccmabckmpelcaa", sum := "f7af60a5542a20e2797ea9a399ae8dbf5a522b1997f5ac13ffb99a7d07ad47de", func := "bolster/bolsterlaw03.WaterMarginal", spec := "waterMarginal", apart := false }
def WaterMarginalSaid : Prop := waterMarginalRow.holds Try.pinned (OpenSpec.ofChange waterMarginalSpec)

/-- ITS FALSE NEIGHBOUR: 'it returns false'. Refute it at one input. -/
def waterMarginalWrong : ChangeSpec := { name := "waterMarginal", fn := fun _ => fun
  | [d] => { results := [.lit (.bool false)], args := [d] }
  | _ => none }
def WaterMarginalWrongFalsely : Prop := waterMarginalRow.holds Try.pinned (OpenSpec.ofChange waterMarginalWrong)

/-- 'bolsterlaw03.WaterOlder': WHATEVER THE INPUT: true; the input reads as it did. -/
def waterOlderSpec : ChangeSpec := { name := "waterOlder", fn := fun _ => fun
  | [d1, d2, d3] => { results := [.lit (.bool true)], args := [d1, d2, d3] }
  | _ => none }
def waterOlderRow : OpenClaim := { program := "ytccmabckmpelcaa", sum := "f7af60a5542a20e2797ea9a399ae8dbf5a522b1997f5ac13ffb99a7d07ad47de", func := "bolster/bolsterlaw03.WaterOlder", spec := "waterOlder", apart := false }
def WaterOlderSaid : Prop := waterOlderRow.holds Try.pinned (OpenSpec.ofChange waterOlderSpec)

/-- ITS FALSE NEIGHBOUR: 'it returns false'. Refute it at one input. -/
def waterOlderWrong : ChangeSpec := { name := "waterOlder", fn := fun _ => fun
  | [d1, d2, d3] => { results := [.lit (.bool false)], args := [d1, d2, d3] }
  | _ => none }
def WaterOlderWrongFalsely : Prop := waterOlderRow.holds Try.pinned (OpenSpec.ofChange waterOlderWrong)

/-- 'bolsterlaw03.WaterTogether': WHATEVER THE INPUT: true; the input reads as it did. -/
def waterTogetherSpec : ChangeSpec := { name := "waterTogether", fn := fun _ => fun
  | [d1, d2, d3] => { results := [.lit (.bool true)], args := [d1, d2, d3] }
  | _ => none }
def waterTogetherRow : OpenClaim := { program := "ytccmabckmpelcaa", sum := "f7af60a5542a20e2797ea9a399ae8dbf5a522b1997f5ac13ffb99a7d07ad47de", func := "bolster/bolsterlaw03.WaterTogether", spec := "waterTogether", apart := false }
def WaterTogetherSaid : Prop := waterTogetherRow.holds Try.pinned (OpenSpec.ofChange waterTogetherSpec)

/-- ITS FALSE NEIGHBOUR: 'it returns false'. Refute it at one input. -/
def waterTogetherWrong : ChangeSpec := { name := "waterTogether", fn := fun _ => fun
  | [d1, d2, d3] => { results := [.lit (.bool false)], args := [d1, d2, d3] }
  | _ => none }
def WaterTogetherWrongFalsely : Prop := waterTogetherRow.holds Try.pinned (OpenSpec.ofChange waterTogetherWrong)

/-- 'bolsterlaw03.WaterTimes': WHATEVER THE INPUT: true; the input reads as it did. -/
def waterTimesSpec : ChangeSpec := { name := "waterTimes", fn := fun _ => fun
  | [d1, d2] => { results := [.lit (.bool true)], args := [d1, d2] }
  | _ => none }
def waterTimesRow : OpenClaim := { program := "ytccmabckmpelcaa", sum := "f7af60a5542a20e2797ea9a399ae8dbf5a522b1997f5ac13ffb99a7d07ad47de", func := "bolster/bolsterlaw03.WaterTimes", spec := "waterTimes", apart := false }
def WaterTimesSaid : Prop := waterTimesRow.holds Try.pinned (OpenSpec.ofChange waterTimesSpec)

/-- ITS FALSE NEIGHBOUR: 'it returns false'. Refute it at one input. -/
def waterTimesWrong : ChangeSpec := { name := "waterTimes", fn := fun _ => fun
  | [d1, d2] => { results := [.lit (.bool false)], args := [d1, d2] }
  | _ => none }
def WaterTimesWrongFalsely : Prop := waterTimesRow.holds Try.pinned (OpenSpec.ofChange waterTimesWrong)

/- THE SECOND FORM. 'bulk': how many values and letters a reading holds, each counted each time it is reached (what is shared counts as often as it is met; a slice's spare places count too). A statement '..UptoSaid' is the law's where the arguments, and the package variables that the reading takes, are together of bulk at most 1048576: NARROWER than '..Said'. Prove '..Said' where nothing that the law and all that it calls make is longer than what came in: it says more and counts as full. Else prove '..UptoSaid'. A law counts once. -/
mutual
def uptoBulk {H : Type} : DataW H → Nat
  | .lit (.string bytes) => bytes.length + 1
  | .lit _ => 1
  | .nil => 1
  | .ptr d => uptoBulk d + 1
  | .slice elems spare => uptoBulkAll elems + uptoBulkAll spare + 1
  | .agg parts => uptoBulkAll parts + 1
  | .iface _ d => uptoBulk d + 1
  | .map entries => uptoBulkEntries entries + 1
  | .held _ => 1
def uptoBulkAll {H : Type} : List (DataW H) → Nat
  | [] => 0
  | d :: r => uptoBulk d + uptoBulkAll r
def uptoBulkEntries {H : Type} : List (Lit × DataW H) → Nat
  | [] => 0
  | x :: r => uptoBulkEntry x + uptoBulkEntries r
def uptoBulkEntry {H : Type} : Lit × DataW H → Nat
  | (.string bytes, d) => bytes.length + uptoBulk d + 1
  | (_, d) => uptoBulk d + 1
 end
def uptoSmall : (H : Type) → List (DataW H) → Bool := fun _ ds => decide (uptoBulkAll ds ≤ 1048576)
def OpenSpec.upto (s : _root_.Go.ChangeSpec) : _root_.Go.OpenSpec := { _root_.Go.OpenSpec.ofChange s with cond := some uptoSmall }

/-- 'bolsterlaw03.WaterWorths', WHERE WHAT IT READS IS OF BULK AT MOST 1048576: true; the input reads as it did. -/
def waterWorthsUptoRow : OpenClaim := { program := "ytccmabckmpelcaa", sum := "f7af60a5542a20e2797ea9a399ae8dbf5a522b1997f5ac13ffb99a7d07ad47de", func := "bolster/bolsterlaw03.WaterWorths", spec := "waterWorths", apart := false, narrowed := true }
def WaterWorthsUptoSaid : Prop := waterWorthsUptoRow.holds Try.pinned (OpenSpec.upto waterWorthsSpec)

/-- 'bolsterlaw03.WaterBests', WHERE WHAT IT READS IS OF BULK AT MOST 1048576: true; the input reads as it did. -/
def waterBestsUptoRow : OpenClaim := { program := "ytccmabckmpelcaa", sum := "f7af60a5542a20e2797ea9a399ae8dbf5a522b1997f5ac13ffb99a7d07ad47de", func := "bolster/bolsterlaw03.WaterBests", spec := "waterBests", apart := false, narrowed := true }
def WaterBestsUptoSaid : Prop := waterBestsUptoRow.holds Try.pinned (OpenSpec.upto waterBestsSpec)

/-- 'bolsterlaw03.WaterGroups', WHERE WHAT IT READS IS OF BULK AT MOST 1048576: true; the input reads as it did. -/
def waterGroupsUptoRow : OpenClaim := { program := "ytccmabckmpelcaa", sum := "f7af60a5542a20e2797ea9a399ae8dbf5a522b1997f5ac13ffb99a7d07ad47de", func := "bolster/bolsterlaw03.WaterGroups", spec := "waterGroups", apart := false, narrowed := true }
def WaterGroupsUptoSaid : Prop := waterGroupsUptoRow.holds Try.pinned (OpenSpec.upto waterGroupsSpec)

/-- 'bolsterlaw03.WaterShares', WHERE WHAT IT READS IS OF BULK AT MOST 1048576: true; the input reads as it did. -/
def waterSharesUptoRow : OpenClaim := { program := "ytccmabckmpelcaa", sum := "f7af60a5542a20e2797ea9a399ae8dbf5a522b1997f5ac13ffb99a7d07ad47de", func := "bolster/bolsterlaw03.WaterShares", spec := "waterShares", apart := false, narrowed := true }
def WaterSharesUptoSaid : Prop := waterSharesUptoRow.holds Try.pinned (OpenSpec.upto waterSharesSpec)

/-- 'bolsterlaw03.WaterCalls', WHERE WHAT IT READS IS OF BULK AT MOST 1048576: true; the input reads as it did. -/
def waterCallsUptoRow : OpenClaim := { program := "ytccmabckmpelcaa", sum := "f7af60a5542a20e2797ea9a399ae8dbf5a522b1997f5ac13ffb99a7d07ad47de", func := "bolster/bolsterlaw03.WaterCalls", spec := "waterCalls", apart := false, narrowed := true }
def WaterCallsUptoSaid : Prop := waterCallsUptoRow.holds Try.pinned (OpenSpec.upto waterCallsSpec)

/-- 'bolsterlaw03.WaterBest', WHERE WHAT IT READS IS OF BULK AT MOST 1048576: true; the input reads as it did. -/
def waterBestUptoRow : OpenClaim := { program := "ytccmabckmpelcaa", sum := "f7af60a5542a20e2797ea9a399ae8dbf5a522b1997f5ac13ffb99a7d07ad47de", func := "bolster/bolsterlaw03.WaterBest", spec := "waterBest", apart := false, narrowed := true }
def WaterBestUptoSaid : Prop := waterBestUptoRow.holds Try.pinned (OpenSpec.upto waterBestSpec)

/-- 'bolsterlaw03.WaterFair', WHERE WHAT IT READS IS OF BULK AT MOST 1048576: true; the input reads as it did. -/
def waterFairUptoRow : OpenClaim := { program := "ytccmabckmpelcaa", sum := "f7af60a5542a20e2797ea9a399ae8dbf5a522b1997f5ac13ffb99a7d07ad47de", func := "bolster/bolsterlaw03.WaterFair", spec := "waterFair", apart := false, narrowed := true }
def WaterFairUptoSaid : Prop := waterFairUptoRow.holds Try.pinned (OpenSpec.upto waterFairSpec)

/-- 'bolsterlaw03.WaterOnly', WHERE WHAT IT READS IS OF BULK AT MOST 1048576: true; the input reads as it did. -/
def waterOnlyUptoRow : OpenClaim := { program := "ytccmabckmpelcaa", sum := "f7af60a5542a20e2797ea9a399ae8dbf5a522b1997f5ac13ffb99a7d07ad47de", func := "bolster/bolsterlaw03.WaterOnly", spec := "waterOnly", apart := false, narrowed := true }
def WaterOnlyUptoSaid : Prop := waterOnlyUptoRow.holds Try.pinned (OpenSpec.upto waterOnlySpec)

/-- 'bolsterlaw03.WaterMarginal', WHERE WHAT IT READS IS OF BULK AT MOST 1048576: true; the input reads as it did. -/
def waterMarginalUptoRow : OpenClaim := { program := "ytccmabckmpelcaa", sum := "f7af60a5542a20e2797ea9a399ae8dbf5a522b1997f5ac13ffb99a7d07ad47de", func := "bolster/bolsterlaw03.WaterMarginal", spec := "waterMarginal", apart := false, narrowed := true }
def WaterMarginalUptoSaid : Prop := waterMarginalUptoRow.holds Try.pinned (OpenSpec.upto waterMarginalSpec)

/-- 'bolsterlaw03.WaterOlder', WHERE WHAT IT READS IS OF BULK AT MOST 1048576: true; the input reads as it did. -/
def waterOlderUptoRow : OpenClaim := { program := "ytccmabckmpelcaa", sum := "f7af60a5542a20e2797ea9a399ae8dbf5a522b1997f5ac13ffb99a7d07ad47de", func := "bolster/bolsterlaw03.WaterOlder", spec := "waterOlder", apart := false, narrowed := true }
def WaterOlderUptoSaid : Prop := waterOlderUptoRow.holds Try.pinned (OpenSpec.upto waterOlderSpec)

/-- 'bolsterlaw03.WaterTogether', WHERE WHAT IT READS IS OF BULK AT MOST 1048576: true; the input reads as it did. -/
def waterTogetherUptoRow : OpenClaim := { program := "ytccmabckmpelcaa", sum := "f7af60a5542a20e2797ea9a399ae8dbf5a522b1997f5ac13ffb99a7d07ad47de", func := "bolster/bolsterlaw03.WaterTogether", spec := "waterTogether", apart := false, narrowed := true }
def WaterTogetherUptoSaid : Prop := waterTogetherUptoRow.holds Try.pinned (OpenSpec.upto waterTogetherSpec)

/-- 'bolsterlaw03.WaterTimes', WHERE WHAT IT READS IS OF BULK AT MOST 1048576: true; the input reads as it did. -/
def waterTimesUptoRow : OpenClaim := { program := "ytccmabckmpelcaa", sum := "f7af60a5542a20e2797ea9a399ae8dbf5a522b1997f5ac13ffb99a7d07ad47de", func := "bolster/bolsterlaw03.WaterTimes", spec := "waterTimes", apart := false, narrowed := true }
def WaterTimesUptoSaid : Prop := waterTimesUptoRow.holds Try.pinned (OpenSpec.upto waterTimesSpec)

end Rows
end Go.Proofs.Ytccmabckmpelcaa
