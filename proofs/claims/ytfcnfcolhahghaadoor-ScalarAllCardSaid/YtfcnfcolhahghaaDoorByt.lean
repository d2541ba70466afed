/- Bytes of words: as lists, shifted, cut down. No condition but what each names. -/
import Derived.Test.YtfcnfcolhahghaaDoorKnow
import Derived.Test.YtfcnfcolhahghaaDoorBytes
import Derived.RangeFuncBox
namespace Go.Proofs.YtfcnfcolhahghaaDoor
open Go.RowKit Go.Shelf
set_option linter.unusedVariables false
set_option linter.unusedSimpArgs false
attribute [local go_sem] Oper.semAt_some
/-- The bytes of a word, the lowest first. -/
def le8 (x : Nat) : List UInt8 := (List.range 8).map fun j => UInt8.ofNat (x / 2 ^ (8 * j))
theorem le8_length (x : Nat) : (le8 x).length = 8 := by simp [le8]
theorem le8_take (x q : Nat) (hq : q < 8) : (le8 x).take (q + 1) = (le8 x).take q ++ [UInt8.ofNat (x / 2 ^ (8 * q))] := by
  rw [List.take_succ_eq_append_getElem (by rw [le8_length]; exact hq)]
  simp [le8]
def leW (f : Nat → Nat) (pre : List (Fin 4)) : List UInt8 := pre.flatMap fun x => le8 (f x.1)
theorem leW_snoc (f : Nat → Nat) (pre : List (Fin 4)) (x : Fin 4) : leW f (pre ++ [x]) = leW f pre ++ le8 (f x.1) := by simp [leW]
theorem leW_length (f : Nat → Nat) : ∀ pre, (leW f pre).length = 8 * pre.length
  | [] => rfl
  | x :: pre => by
    have := leW_length f pre
    simp only [leW, List.flatMap_cons, List.length_append, le8_length, List.length_cons] at *
    omega
/-- The 32 bytes of a number, the lowest first. -/
def bytesN (N : Nat) : List UInt8 := leW (dig N) (List.finRange 4)
theorem bytesN_length (N : Nat) : (bytesN N).length = 32 := by unfold bytesN; rw [leW_length, List.length_finRange]
theorem wrap8 (n : Nat) : IntKind.u8.wrap (n : Int) = ((n % 256 : Nat) : Int) := by
  have h : IntKind.u8.wrap (n : Int) = (n : Int) % 256 := by simp [IntKind.wrap, IntKind.bits, IntKind.signed]
  rw [h]; omega
theorem shr_cast (x m : Nat) : ((x : Int) / 2 ^ m) = ((x / 2 ^ m : Nat) : Int) := by rw [Int.natCast_ediv, Int.natCast_pow]; rfl
theorem byteV (y : Nat) : bytesV [UInt8.ofNat y] = [Value.int .u8 ((y % 256 : Nat) : Int)] := by
  show [Value.int .u8 (((UInt8.ofNat y).toNat : Nat) : Int)] = _
  rw [UInt8.toNat_ofNat']
theorem exec_shr {ρ : Operand → Value} {o : Oper} (x z : Operand) (ho : o.op = .binOp .shr 22 x z 3) (y s : Nat) (hs : s < 64) (hx : ρ x = .int .u64 (y : Int)) (hz : ρ z = .int .i64 (s : Int)) (r : Nat) (hr : r = y / 2 ^ s) (w : World) :
    (execOp ρ o).run Tryd.prog w = .ok (.value (.int .u64 (r : Int))) w := by
  have hsh := shr_cast y s
  rw [← hr] at hsh
  have hsi : (s : Int) < 64 := by omega
  clear hr
  unfold execOp
  rw [ho]
  simp only [hx, hz]
  go_simp
theorem exec_conv8 {ρ : Operand → Value} {o : Oper} (x : Operand) (ho : o.op = .convert 22 5 x) (y b : Nat) (hx : ρ x = .int .u64 (y : Int)) (hb : b = y % 256) (w : World) :
    (execOp ρ o).run Tryd.prog w = .ok (.value (.int .u8 (b : Int))) w := by
  have h := wrap8 y
  rw [← hb] at h
  clear hb
  unfold execOp
  rw [ho]
  simp only [hx]
  go_simp
end Go.Proofs.YtfcnfcolhahghaaDoor
