/- Small texts as sectors; what it means that only what was made since has turned. No condition. -/
import Derived.Test.YtpkhddnehhophaaErrs
namespace Go.Proofs.Ytpkhddnehhophaa
open Go.RowKit
def SE : List UInt8 := pad []
theorem SE_length : SE.length = 64 := pad_length _

/-- Only what was made since has turned. -/
abbrev Fresh (N : Nat) (w w' : World) : Prop := Fr (fun k => N ≤ k) w w'
theorem Fresh.none {N : Nat} {a b c : World} (h : Fresh N a b) (k : Fr (fun _ => False) b c) : Fresh N a c := h.trans (k.mono (fun _ _ h => h.elim))
theorem Fresh.foot {N : Nat} {a w w' : World} {B b bs : Nat} {lv : Value} {D : DS} (h : Fresh N a w) (k : Fr (Foot b bs lv) w w') (R : Rep w B b bs lv D) (hB : N ≤ B) : Fresh N a w' := by
  refine h.trans (k.mono (fun j _ hj => ?_))
  rcases hj with rfl | rfl | hj
  · have := R.hb; omega
  · have := R.hbs; omega
  · have := (R.hl.lt j hj).1; omega
end Go.Proofs.Ytpkhddnehhophaa
