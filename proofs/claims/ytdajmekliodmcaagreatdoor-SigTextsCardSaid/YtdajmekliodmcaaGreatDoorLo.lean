/- The iterator of package codec that goes through bits, the lowest first: what it hands out, whatever hands it its numbers. -/
import Derived.Test.YtdajmekliodmcaaGreatDoorHi
namespace Go.Proofs.YtdajmekliodmcaaGreatDoor
open Go.RowKit Go.Shelf
set_option linter.unusedVariables false
attribute [local go_sem] Oper.semAt_some

/-- What the lowest bits of h tell, m of them, in whole numbers of t bits. -/
def loEmit (t h m : Nat) : List Nat := (List.range (m / t)).map fun i => h / 2 ^ (t * i) % 2 ^ t
def loStep (f t : Nat) (s : Nat × Nat × List Nat) (x : Nat) : Nat × Nat × List Nat :=
  ((s.1 ||| x * 2 ^ s.2.1 % 18446744073709551616) / 2 ^ (t * ((s.2.1 + f) / t)), (s.2.1 + f) % t, s.2.2 ++ loEmit t (s.1 ||| x * 2 ^ s.2.1 % 18446744073709551616) (s.2.1 + f))
theorem loEmit_length (t h m : Nat) : (loEmit t h m).length = m / t := by simp [loEmit]
end Go.Proofs.YtdajmekliodmcaaGreatDoor
