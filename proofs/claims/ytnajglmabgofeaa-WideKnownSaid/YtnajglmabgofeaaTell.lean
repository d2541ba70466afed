/- What fills up, and what is told, as plain mathematics. No condition. -/
import Derived.Test.YtnajglmabgofeaaBehA
import Derived.Test.YtnajglmabgofeaaBytes
namespace Go.Proofs.Ytnajglmabgofeaa
theorem fill_lt (n : Nat) : fill n < 128 := Nat.mod_lt _ (by decide)
theorem fill_end (n : Nat) : (n + 1 + fill n) % 128 = 112 := by unfold fill; omega
theorem fill_not (n k : Nat) (h : k < fill n) : (n + 1 + k) % 128 ≠ 112 := by unfold fill at h; omega
def tellTo (f : Nat → Nat) : Nat → List UInt8
  | 0 => []
  | k + 1 => tellTo f k ++ be8 (f k)
theorem tellTo_succ (f : Nat → Nat) (k : Nat) : tellTo f (k + 1) = tellTo f k ++ be8 (f k) := rfl
theorem tellTo_length (f : Nat → Nat) : ∀ k, (tellTo f k).length = 8 * k
  | 0 => rfl
  | k + 1 => by rw [tellTo_succ, List.length_append, tellTo_length f k]; show 8 * k + 8 = _; omega
theorem tell_to (s : St) : tellTo s.at 8 = tell s := by simp [tellTo, tell, St.at]
theorem pad_blocks (l : List UInt8) : (pad l).length = 128 * ((pad l).length / 128) := by
  unfold pad tailN
  simp only [List.length_append, List.length_cons, List.length_replicate]
  have h8 : ∀ n, (be8 n).length = 8 := fun n => rfl
  rw [h8, h8]
  unfold fill
  omega
theorem pad_le (l : List UInt8) : (pad l).length ≤ l.length + 160 := by
  unfold pad tailN
  simp only [List.length_append, List.length_cons, List.length_replicate]
  have h8 : ∀ n, (be8 n).length = 8 := fun n => rfl
  have := fill_lt l.length
  rw [h8, h8]
  omega
theorem kL_at (j : Nat) (hj : j < 80) : kL[j]? = some (kN j) := by
  unfold kN
  have : kL.length = 80 := by decide +kernel
  rw [List.getD_eq_getElem?_getD, List.getElem?_eq_getElem (by omega)]; rfl
end Go.Proofs.Ytnajglmabgofeaa
