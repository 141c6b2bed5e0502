import Derived.Test.YtccmabckmpelcaaProg
import Derived.Deep.QuietTactic
import Derived.BigQuiet
namespace Go.Proofs.Ytccmabckmpelcaa
open Go
/-- The operations of a region of a function's body. -/
def opsIn (id : Nat) : Code → Option (List Oper)
  | .region i ops _ => if i = id then some ops.toList else none
  | .seq a b => (opsIn id a).or (opsIn id b)
  | .cond _ a b => (opsIn id a).or (opsIn id b)
  | .block _ a => opsIn id a
  | .loop a => opsIn id a
  | .scope a => opsIn id a
  | _ => none
/-- Region 9 of function 11 may be walked in the order of the text. -/
theorem lex9 : ((Try.f11.body.bind (opsIn 9)).all fun l => Region.lexB .any l.toArray) = true := by kernel_rfl
theorem lex9' {l : List Oper} (h : Try.f11.body.bind (opsIn 9) = some l) : Region.lexB .any l.toArray = true := by
  have := lex9
  rw [h] at this
  exact this
end Go.Proofs.Ytccmabckmpelcaa
