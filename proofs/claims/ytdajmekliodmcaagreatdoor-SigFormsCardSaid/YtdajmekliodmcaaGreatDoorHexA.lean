/- Package codec's Hex: it tells the arithmetic's letters. Its condition: a length that fits. -/
import Derived.Test.YtdajmekliodmcaaGreatDoorLow
namespace Go.Proofs.YtdajmekliodmcaaGreatDoor
open Go.RowKit Go.Shelf
set_option linter.unusedVariables false

theorem natsOf_nb (s : ByteArray) : natsOf s = nb s.data.toList := rfl
theorem only_any (s : ByteArray) (so : Bool) (w : World) :
    Calls Tryz.prog 107 #[.string s, .bool so] w fun e w2 => e = .returned (.tuple #[.string (if so then s else ⟨#[]⟩), .bool so]) ∧ w2 = w := by
  cases so
  · go_enter Tryz.func107, Tryz.ntmps107
    go_wp2
    go_ret2
    exact ⟨rfl, rfl⟩
  · go_enter Tryz.func107, Tryz.ntmps107
    go_wp2
    go_ret2
    exact ⟨rfl, rfl⟩

theorem map_ofNat_nb : ∀ l : List UInt8, (nb l).map UInt8.ofNat = l
  | [] => rfl
  | c :: l => by
    show UInt8.ofNat c.toNat :: (nb l).map UInt8.ofNat = c :: l
    rw [map_ofNat_nb l]; simp
theorem toList_data (s : ByteArray) : s.toList = s.data.toList := ByteArray.toList_eq s
/-- What two results are, where an option is told. -/
def told (o : Option (List UInt8)) : Value := match o with
  | some l => .tuple #[.string ⟨l.toArray⟩, .bool true]
  | none => .tuple #[.string ⟨#[]⟩, .bool false]
end Go.Proofs.YtdajmekliodmcaaGreatDoor
