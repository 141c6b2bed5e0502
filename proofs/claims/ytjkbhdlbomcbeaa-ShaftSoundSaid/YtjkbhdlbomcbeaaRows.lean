/-
  No cell of these rows narrows 'for every input' (looked for: loops, veiled, ifaces, maps, wideKeys, modest, calm, conditions, laid).
  DERIVED. THE GIVEN ROWS OF THIS SEAT. 12 by the template 'for every input the law returns true; each argument reads behind the call as it read before'; 0 by the template 'total and deterministic' (their statements: YtjkbhdlbomcbeaaTotals.lean).
  GIVEN WITH THE SEED: the statements are not yours to turn. If you find one false, say at which input.
  Laid BY PROGRAM, IN A SANDBOX (cutbox-rows.mjs): the forced cells as the released guide's own fill.sh prints them over the translation 6b57b751ce49cfa4… (all of the seat's roots in one cut). By AI agents, Wed Nov 11 2026. No macro, syntax, notation, axiom, sorry.
-/
import Derived.Test.YtjkbhdlbomcbeaaChecked
import GoSem.Claim
import GoSem.ClaimJoined
import GoSem.ClaimMapViews
import Derived.JoinedTies
import Derived.KernelRfl
namespace Go.Proofs.Ytjkbhdlbomcbeaa
/- THE CELL 'sum', in the pinned program and in every row, IS THE sha256 OF THE DUMP (.gsa) THAT YtjkbhdlbomcbeaaProg.lean LOADS. Nothing in Lean hashes anything: it is a label: what it is worth is what the hold of that sum in a sandbox is worth. -/
noncomputable def Try.pinned : Pinned := { name := "ytjkbhdlbomcbeaa", sum := "6b57b751ce49cfa460c25d25623d9c62a0cc07825c387cb6cc4f2033c9004957", checked := Try.checked }
namespace Rows
def none {H : Type} : Left H := { results := [], args := [] }

/-- 'bolsterlaw07.ShaftFits': WHATEVER THE INPUT: true; the input reads as it did. -/
def shaftFitsSpec : ChangeSpec := { name := "shaftFits", fn := fun _ => fun
  | [d1, d2] => { results := [.lit (.bool true)], args := [d1, d2] }
  | _ => none }
def shaftFitsRow : OpenClaim := { program := "ytjkbhdlbomcbeaa", sum := "6b57b751ce49cfa460c25d25623d9c62a0cc07825c387cb6cc4f2033c9004957", func := "bolster/bolsterlaw07.ShaftFits", spec := "shaftFits", unfollowed := true, recurses := true, apart := false }
def ShaftFitsSaid : Prop := shaftFitsRow.holds Try.pinned (OpenSpec.ofChange shaftFitsSpec)

/-- ITS FALSE NEIGHBOUR: 'it returns false'. Refute it at one input. -/
def shaftFitsWrong : ChangeSpec := { name := "shaftFits", fn := fun _ => fun
  | [d1, d2] => { results := [.lit (.bool false)], args := [d1, d2] }
  | _ => none }
def ShaftFitsWrongFalsely : Prop := shaftFitsRow.holds Try.pinned (OpenSpec.ofChange shaftFitsWrong)

/-- 'bolsterlaw07.ShaftFirsts': WHATEVER THE INPUT: true; the input reads as it did. -/
def shaftFirstsSpec : ChangeSpec := { name := "shaftFirsts", fn := fun _ => fun
  | [d] => { results := [.lit (.bool true)], args := [d] }
  | _ => none }
def shaftFirstsRow : OpenClaim := { program := "ytjkbhdlbomcbeaa", sum := "6b57b751ce49cfa460c25d25623d9c62a0cc07825c387cb6cc4f2033c9004957", func := "bolster/bolsterlaw07.ShaftFirsts", spec := "shaftFirsts", unfollowed := true, recurses := true, apart := false }
def ShaftFirstsSaid : Prop := shaftFirstsRow.holds Try.pinned (OpenSpec.ofChange shaftFirstsSpec)

/-- ITS FALSE NEIGHBOUR: 'it returns false'. Refute it at one input. -/
def shaftFirstsWrong : ChangeSpec := { name := "shaftFirsts", fn := fun _ => fun
  | [d] => { results := [.lit (.bool false)], args := [d] }
  | _ => none }
def ShaftFirstsWrongFalsely : Prop := shaftFirstsRow.holds Try.pinned (OpenSpec.ofChange shaftFirstsWrong)

/-- 'bolsterlaw07.ShaftOverfulls': WHATEVER THE INPUT: true; the input reads as it did. -/
def shaftOverfullsSpec : ChangeSpec := { name := "shaftOverfulls", fn := fun _ => fun
  | [d1, d2, d3] => { results := [.lit (.bool true)], args := [d1, d2, d3] }
  | _ => none }
def shaftOverfullsRow : OpenClaim := { program := "ytjkbhdlbomcbeaa", sum := "6b57b751ce49cfa460c25d25623d9c62a0cc07825c387cb6cc4f2033c9004957", func := "bolster/bolsterlaw07.ShaftOverfulls", spec := "shaftOverfulls", unfollowed := true, recurses := true, apart := false }
def ShaftOverfullsSaid : Prop := shaftOverfullsRow.holds Try.pinned (OpenSpec.ofChange shaftOverfullsSpec)

/-- ITS FALSE NEIGHBOUR: 'it returns false'. Refute it at one input. -/
def shaftOverfullsWrong : ChangeSpec := { name := "shaftOverfulls", fn := fun _ => fun
  | [d1, d2, d3] => { results := [.lit (.bool false)], args := [d1, d2, d3] }
  | _ => none }
def ShaftOverfullsWrongFalsely : Prop := shaftOverfullsRow.holds Try.pinned (OpenSpec.ofChange shaftOverfullsWrong)

/-- 'bolsterlaw07.ShaftRefuses': WHATEVER THE INPUT: true; the input reads as it did. -/
def shaftRefusesSpec : ChangeSpec := { name := "shaftRefuses", fn := fun _ => fun
  | [d] => { results := [.lit (.bool true)], args := [d] }
  | _ => none }
def shaftRefusesRow : OpenClaim := { program := "ytjkbhdlbomcbeaa", sum := "6b57b751ce49cfa460c25d25623d9c62a0cc07825c387cb6cc4f2033c9004957", func := "bolster/bolsterlaw07.ShaftRefuses", spec := "shaftRefuses", unfollowed := true, recurses := true, apart := false }
def ShaftRefusesSaid : Prop := shaftRefusesRow.holds Try.pinned (OpenSpec.ofChange shaftRefusesSpec)

/-- ITS FALSE NEIGHBOUR: 'it returns false'. Refute it at one input. -/
def shaftRefusesWrong : ChangeSpec := { name := "shaftRefuses", fn := fun _ => fun
  | [d] => { results := [.lit (.bool false)], args := [d] }
  | _ => none }
def ShaftRefusesWrongFalsely : Prop := shaftRefusesRow.holds Try.pinned (OpenSpec.ofChange shaftRefusesWrong)

/-- 'bolsterlaw07.ShaftProves': WHATEVER THE INPUT: true; the input reads as it did. -/
def shaftProvesSpec : ChangeSpec := { name := "shaftProves", fn := fun _ => fun
  | [d1, d2] => { results := [.lit (.bool true)], args := [d1, d2] }
  | _ => none }
def shaftProvesRow : OpenClaim := { program := "ytjkbhdlbomcbeaa", sum := "6b57b751ce49cfa460c25d25623d9c62a0cc07825c387cb6cc4f2033c9004957", func := "bolster/bolsterlaw07.ShaftProves", spec := "shaftProves", unfollowed := true, recurses := true, apart := false }
def ShaftProvesSaid : Prop := shaftProvesRow.holds Try.pinned (OpenSpec.ofChange shaftProvesSpec)

/-- ITS FALSE NEIGHBOUR: 'it returns false'. Refute it at one input. -/
def shaftProvesWrong : ChangeSpec := { name := "shaftProves", fn := fun _ => fun
  | [d1, d2] => { results := [.lit (.bool false)], args := [d1, d2] }
  | _ => none }
def ShaftProvesWrongFalsely : Prop := shaftProvesRow.holds Try.pinned (OpenSpec.ofChange shaftProvesWrong)

/-- 'bolsterlaw07.ShaftLoads': WHATEVER THE INPUT: true; the input reads as it did. -/
def shaftLoadsSpec : ChangeSpec := { name := "shaftLoads", fn := fun _ => fun
  | [d1, d2] => { results := [.lit (.bool true)], args := [d1, d2] }
  | _ => none }
def shaftLoadsRow : OpenClaim := { program := "ytjkbhdlbomcbeaa", sum := "6b57b751ce49cfa460c25d25623d9c62a0cc07825c387cb6cc4f2033c9004957", func := "bolster/bolsterlaw07.ShaftLoads", spec := "shaftLoads", unfollowed := true, recurses := true, apart := false }
def ShaftLoadsSaid : Prop := shaftLoadsRow.holds Try.pinned (OpenSpec.ofChange shaftLoadsSpec)

/-- ITS FALSE NEIGHBOUR: 'it returns false'. Refute it at one input. -/
def shaftLoadsWrong : ChangeSpec := { name := "shaftLoads", fn := fun _ => fun
  | [d1, d2] => { results := [.lit (.bool false)], args := [d1, d2] }
  | _ => none }
def ShaftLoadsWrongFalsely : Prop := shaftLoadsRow.holds Try.pinned (OpenSpec.ofChange shaftLoadsWrong)

/-- 'bolsterlaw07.ShaftLeast': WHATEVER THE INPUT: true; the input reads as it did. -/
def shaftLeastSpec : ChangeSpec := { name := "shaftLeast", fn := fun _ => fun
  | [d1, d2] => { results := [.lit (.bool true)], args := [d1, d2] }
  | _ => none }
def shaftLeastRow : OpenClaim := { program := "ytjkbhdlbomcbeaa", sum := "6b57b751ce49cfa460c25d25623d9c62a0cc07825c387cb6cc4f2033c9004957", func := "bolster/bolsterlaw07.ShaftLeast", spec := "shaftLeast", unfollowed := true, recurses := true, apart := false }
def ShaftLeastSaid : Prop := shaftLeastRow.holds Try.pinned (OpenSpec.ofChange shaftLeastSpec)

/-- ITS FALSE NEIGHBOUR: 'it returns false'. Refute it at one input. -/
def shaftLeastWrong : ChangeSpec := { name := "shaftLeast", fn := fun _ => fun
  | [d1, d2] => { results := [.lit (.bool false)], args := [d1, d2] }
  | _ => none }
def ShaftLeastWrongFalsely : Prop := shaftLeastRow.holds Try.pinned (OpenSpec.ofChange shaftLeastWrong)

/-- 'bolsterlaw07.ShaftSound': WHATEVER THE INPUT: true; the input reads as it did. -/
def shaftSoundSpec : ChangeSpec := { name := "shaftSound", fn := fun _ => fun
  | [d1, d2] => { results := [.lit (.bool true)], args := [d1, d2] }
  | _ => none }
def shaftSoundRow : OpenClaim := { program := "ytjkbhdlbomcbeaa", sum := "6b57b751ce49cfa460c25d25623d9c62a0cc07825c387cb6cc4f2033c9004957", func := "bolster/bolsterlaw07.ShaftSound", spec := "shaftSound", unfollowed := true, recurses := true, apart := false }
def ShaftSoundSaid : Prop := shaftSoundRow.holds Try.pinned (OpenSpec.ofChange shaftSoundSpec)

/-- ITS FALSE NEIGHBOUR: 'it returns false'. Refute it at one input. -/
def shaftSoundWrong : ChangeSpec := { name := "shaftSound", fn := fun _ => fun
  | [d1, d2] => { results := [.lit (.bool false)], args := [d1, d2] }
  | _ => none }
def ShaftSoundWrongFalsely : Prop := shaftSoundRow.holds Try.pinned (OpenSpec.ofChange shaftSoundWrong)

/-- 'bolsterlaw07.ShaftOver': WHATEVER THE INPUT: true; the input reads as it did. -/
def shaftOverSpec : ChangeSpec := { name := "shaftOver", fn := fun _ => fun
  | [d1, d2, d3] => { results := [.lit (.bool true)], args := [d1, d2, d3] }
  | _ => none }
def shaftOverRow : OpenClaim := { program := "ytjkbhdlbomcbeaa", sum := "6b57b751ce49cfa460c25d25623d9c62a0cc07825c387cb6cc4f2033c9004957", func := "bolster/bolsterlaw07.ShaftOver", spec := "shaftOver", unfollowed := true, recurses := true, apart := false }
def ShaftOverSaid : Prop := shaftOverRow.holds Try.pinned (OpenSpec.ofChange shaftOverSpec)

/-- ITS FALSE NEIGHBOUR: 'it returns false'. Refute it at one input. -/
def shaftOverWrong : ChangeSpec := { name := "shaftOver", fn := fun _ => fun
  | [d1, d2, d3] => { results := [.lit (.bool false)], args := [d1, d2, d3] }
  | _ => none }
def ShaftOverWrongFalsely : Prop := shaftOverRow.holds Try.pinned (OpenSpec.ofChange shaftOverWrong)

/-- 'bolsterlaw07.ShaftMore': WHATEVER THE INPUT: true; the input reads as it did. -/
def shaftMoreSpec : ChangeSpec := { name := "shaftMore", fn := fun _ => fun
  | [d1, d2] => { results := [.lit (.bool true)], args := [d1, d2] }
  | _ => none }
def shaftMoreRow : OpenClaim := { program := "ytjkbhdlbomcbeaa", sum := "6b57b751ce49cfa460c25d25623d9c62a0cc07825c387cb6cc4f2033c9004957", func := "bolster/bolsterlaw07.ShaftMore", spec := "shaftMore", unfollowed := true, recurses := true, apart := false }
def ShaftMoreSaid : Prop := shaftMoreRow.holds Try.pinned (OpenSpec.ofChange shaftMoreSpec)

/-- ITS FALSE NEIGHBOUR: 'it returns false'. Refute it at one input. -/
def shaftMoreWrong : ChangeSpec := { name := "shaftMore", fn := fun _ => fun
  | [d1, d2] => { results := [.lit (.bool false)], args := [d1, d2] }
  | _ => none }
def ShaftMoreWrongFalsely : Prop := shaftMoreRow.holds Try.pinned (OpenSpec.ofChange shaftMoreWrong)

/-- 'bolsterlaw07.ShaftMirror': WHATEVER THE INPUT: true; the input reads as it did. -/
def shaftMirrorSpec : ChangeSpec := { name := "shaftMirror", fn := fun _ => fun
  | [d1, d2, d3] => { results := [.lit (.bool true)], args := [d1, d2, d3] }
  | _ => none }
def shaftMirrorRow : OpenClaim := { program := "ytjkbhdlbomcbeaa", sum := "6b57b751ce49cfa460c25d25623d9c62a0cc07825c387cb6cc4f2033c9004957", func := "bolster/bolsterlaw07.ShaftMirror", spec := "shaftMirror", unfollowed := true, recurses := true, apart := false }
def ShaftMirrorSaid : Prop := shaftMirrorRow.holds Try.pinned (OpenSpec.ofChange shaftMirrorSpec)

/-- ITS FALSE NEIGHBOUR: 'it returns false'. Refute it at one input. -/
def shaftMirrorWrong : ChangeSpec := { name := "shaftMirror", fn := fun _ => fun
  | [d1, d2, d3] => { results := [.lit (.bool false)], args := [d1, d2, d3] }
  | _ => none }
def ShaftMirrorWrongFalsely : Prop := shaftMirrorRow.holds Try.pinned (OpenSpec.ofChange shaftMirrorWrong)

/-- 'bolsterlaw07.ShaftSums': WHATEVER THE INPUT: true; the input reads as it did. -/
def shaftSumsSpec : ChangeSpec := { name := "shaftSums", fn := fun _ => fun
  | [d] => { results := [.lit (.bool true)], args := [d] }
  | _ => none }
def shaftSumsRow : OpenClaim := { program := "ytjkbhdlbomcbeaa", sum := "6b57b751ce49cfa460c25d25623d9c62a0cc07825c387cb6cc4f2033c9004957", func := "bolster/bolsterlaw07.ShaftSums", spec := "shaftSums", unfollowed := true, recurses := true, apart := false }
def ShaftSumsSaid : Prop := shaftSumsRow.holds Try.pinned (OpenSpec.ofChange shaftSumsSpec)

/-- ITS FALSE NEIGHBOUR: 'it returns false'. Refute it at one input. -/
def shaftSumsWrong : ChangeSpec := { name := "shaftSums", fn := fun _ => fun
  | [d] => { results := [.lit (.bool false)], args := [d] }
  | _ => none }
def ShaftSumsWrongFalsely : Prop := shaftSumsRow.holds Try.pinned (OpenSpec.ofChange shaftSumsWrong)

/- THE SECOND FORM. 'bulk': how many values and letters a reading holds, each counted each time it is reached (what is shared counts as often as it is met; a slice's spare places count too). A statement '..UptoSaid' is the law's where the arguments, and the package variables that the reading takes, are together of bulk at most 1048576: NARROWER than '..Said'. Prove '..Said' where nothing that the law and all that it calls make is longer than what came in: it says more and counts as full. Else prove '..UptoSaid'. A law counts once. -/
mutual
def uptoBulk {H : Type} : DataW H → Nat
  | .lit (.string bytes) => bytes.length + 1
  | .lit _ => 1
  | .nil => 1
  | .ptr d => uptoBulk d + 1
  | .slice elems spare => uptoBulkAll elems + uptoBulkAll spare + 1
  | .agg parts => uptoBulkAll parts + 1
  | .iface _ d => uptoBulk d + 1
  | .map entries => uptoBulkEntries entries + 1
  | .held _ => 1
def uptoBulkAll {H : Type} : List (DataW H) → Nat
  | [] => 0
  | d :: r => uptoBulk d + uptoBulkAll r
def uptoBulkEntries {H : Type} : List (Lit × DataW H) → Nat
  | [] => 0
  | x :: r => uptoBulkEntry x + uptoBulkEntries r
def uptoBulkEntry {H : Type} : Lit × DataW H → Nat
  | (.string bytes, d) => bytes.length + uptoBulk d + 1
  | (_, d) => uptoBulk d + 1
 end
def uptoSmall : (H : Type) → List (DataW H) → Bool := fun _ ds => decide (uptoBulkAll ds ≤ 1048576)
def OpenSpec.upto (s : _root_.Go.ChangeSpec) : _root_.Go.OpenSpec := { _root_.Go.OpenSpec.ofChange s with cond := some uptoSmall }

/-- 'bolsterlaw07.ShaftFits', WHERE WHAT IT READS IS OF BULK AT MOST 1048576: true; the input reads as it did. -/
def shaftFitsUptoRow : OpenClaim := { program := "ytjkbhdlbomcbeaa", sum := "6b57b751ce49cfa460c25d25623d9c62a0cc07825c387cb6cc4f2033c9004957", func := "bolster/bolsterlaw07.ShaftFits", spec := "shaftFits", unfollowed := true, recurses := true, apart := false, narrowed := true }
def ShaftFitsUptoSaid : Prop := shaftFitsUptoRow.holds Try.pinned (OpenSpec.upto shaftFitsSpec)

/-- 'bolsterlaw07.ShaftFirsts', WHERE WHAT IT READS IS OF BULK AT MOST 1048576: true; the input reads as it did. -/
def shaftFirstsUptoRow : OpenClaim := { program := "ytjkbhdlbomcbeaa", sum := "6b57b751ce49cfa460c25d25623d9c62a0cc07825c387cb6cc4f2033c9004957", func := "bolster/bolsterlaw07.ShaftFirsts", spec := "shaftFirsts", unfollowed := true, recurses := true, apart := false, narrowed := true }
def ShaftFirstsUptoSaid : Prop := shaftFirstsUptoRow.holds Try.pinned (OpenSpec.upto shaftFirstsSpec)

/-- 'bolsterlaw07.ShaftOverfulls', WHERE WHAT IT READS IS OF BULK AT MOST 1048576: true; the input reads as it did. -/
def shaftOverfullsUptoRow : OpenClaim := { program := "ytjkbhdlbomcbeaa", sum := "6b57b751ce49cfa460c25d25623d9c62a0cc07825c387cb6cc4f2033c9004957", func := "bolster/bolsterlaw07.ShaftOverfulls", spec := "shaftOverfulls", unfollowed := true, recurses := true, apart := false, narrowed := true }
def ShaftOverfullsUptoSaid : Prop := shaftOverfullsUptoRow.holds Try.pinned (OpenSpec.upto shaftOverfullsSpec)

/-- 'bolsterlaw07.ShaftRefuses', WHERE WHAT IT READS IS OF BULK AT MOST 1048576: true; the input reads as it did. -/
def shaftRefusesUptoRow : OpenClaim := { program := "ytjkbhdlbomcbeaa", sum := "6b57b751ce49cfa460c25d25623d9c62a0cc07825c387cb6cc4f2033c9004957", func := "bolster/bolsterlaw07.ShaftRefuses", spec := "shaftRefuses", unfollowed := true, recurses := true, apart := false, narrowed := true }
def ShaftRefusesUptoSaid : Prop := shaftRefusesUptoRow.holds Try.pinned (OpenSpec.upto shaftRefusesSpec)

/-- 'bolsterlaw07.ShaftProves', WHERE WHAT IT READS IS OF BULK AT MOST 1048576: true; the input reads as it did. -/
def shaftProvesUptoRow : OpenClaim := { program := "ytjkbhdlbomcbeaa", sum := "6b57b751ce49cfa460c25d25623d9c62a0cc07825c387cb6cc4f2033c9004957", func := "bolster/bolsterlaw07.ShaftProves", spec := "shaftProves", unfollowed := true, recurses := true, apart := false, narrowed := true }
def ShaftProvesUptoSaid : Prop := shaftProvesUptoRow.holds Try.pinned (OpenSpec.upto shaftProvesSpec)

/-- 'bolsterlaw07.ShaftLoads', WHERE WHAT IT READS IS OF BULK AT MOST 1048576: true; the input reads as it did. -/
def shaftLoadsUptoRow : OpenClaim := { program := "ytjkbhdlbomcbeaa", sum := "6b57b751ce49cfa460c25d25623d9c62a0cc07825c387cb6cc4f2033c9004957", func := "bolster/bolsterlaw07.ShaftLoads", spec := "shaftLoads", unfollowed := true, recurses := true, apart := false, narrowed := true }
def ShaftLoadsUptoSaid : Prop := shaftLoadsUptoRow.holds Try.pinned (OpenSpec.upto shaftLoadsSpec)

/-- 'bolsterlaw07.ShaftLeast', WHERE WHAT IT READS IS OF BULK AT MOST 1048576: true; the input reads as it did. -/
def shaftLeastUptoRow : OpenClaim := { program := "ytjkbhdlbomcbeaa", sum := "6b57b751ce49cfa460c25d25623d9c62a0cc07825c387cb6cc4f2033c9004957", func := "bolster/bolsterlaw07.ShaftLeast", spec := "shaftLeast", unfollowed := true, recurses := true, apart := false, narrowed := true }
def ShaftLeastUptoSaid : Prop := shaftLeastUptoRow.holds Try.pinned (OpenSpec.upto shaftLeastSpec)

/-- 'bolsterlaw07.ShaftSound', WHERE WHAT IT READS IS OF BULK AT MOST 1048576: true; the input reads as it did. -/
def shaftSoundUptoRow : OpenClaim := { program := "ytjkbhdlbomcbeaa", sum := "6b57b751ce49cfa460c25d25623d9c62a0cc07825c387cb6cc4f2033c9004957", func := "bolster/bolsterlaw07.ShaftSound", spec := "shaftSound", unfollowed := true, recurses := true, apart := false, narrowed := true }
def ShaftSoundUptoSaid : Prop := shaftSoundUptoRow.holds Try.pinned (OpenSpec.upto shaftSoundSpec)

/-- 'bolsterlaw07.ShaftOver', WHERE WHAT IT READS IS OF BULK AT MOST 1048576: true; the input reads as it did. -/
def shaftOverUptoRow : OpenClaim := { program := "ytjkbhdlbomcbeaa", sum := "6b57b751ce49cfa460c25d25623d9c62a0cc07825c387cb6cc4f2033c9004957", func := "bolster/bolsterlaw07.ShaftOver", spec := "shaftOver", unfollowed := true, recurses := true, apart := false, narrowed := true }
def ShaftOverUptoSaid : Prop := shaftOverUptoRow.holds Try.pinned (OpenSpec.upto shaftOverSpec)

/-- 'bolsterlaw07.ShaftMore', WHERE WHAT IT READS IS OF BULK AT MOST 1048576: true; the input reads as it did. -/
def shaftMoreUptoRow : OpenClaim := { program := "ytjkbhdlbomcbeaa", sum := "6b57b751ce49cfa460c25d25623d9c62a0cc07825c387cb6cc4f2033c9004957", func := "bolster/bolsterlaw07.ShaftMore", spec := "shaftMore", unfollowed := true, recurses := true, apart := false, narrowed := true }
def ShaftMoreUptoSaid : Prop := shaftMoreUptoRow.holds Try.pinned (OpenSpec.upto shaftMoreSpec)

/-- 'bolsterlaw07.ShaftMirror', WHERE WHAT IT READS IS OF BULK AT MOST 1048576: true; the input reads as it did. -/
def shaftMirrorUptoRow : OpenClaim := { program := "ytjkbhdlbomcbeaa", sum := "6b57b751ce49cfa460c25d25623d9c62a0cc07825c387cb6cc4f2033c9004957", func := "bolster/bolsterlaw07.ShaftMirror", spec := "shaftMirror", unfollowed := true, recurses := true, apart := false, narrowed := true }
def ShaftMirrorUptoSaid : Prop := shaftMirrorUptoRow.holds Try.pinned (OpenSpec.upto shaftMirrorSpec)

/-- 'bolsterlaw07.ShaftSums', WHERE WHAT IT READS IS OF BULK AT MOST 1048576: true; the input reads as it did. -/
def shaftSumsUptoRow : OpenClaim := { program := "ytjkbhdlbomcbeaa", sum := "6b57b751ce49cfa460c25d25623d9c62a0cc07825c387cb6cc4f2033c9004957", func := "bolster/bolsterlaw07.ShaftSums", spec := "shaftSums", unfollowed := true, recurses := true, apart := false, narrowed := true }
def ShaftSumsUptoSaid : Prop := shaftSumsUptoRow.holds Try.pinned (OpenSpec.upto shaftSumsSpec)

end Rows
end Go.Proofs.Ytjkbhdlbomcbeaa
