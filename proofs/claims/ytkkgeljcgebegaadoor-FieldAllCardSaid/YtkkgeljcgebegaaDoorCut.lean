/- cut of package field, and what every function of it over numbers wants. No condition but that the number has 256 bits. -/
import Derived.Test.YtkkgeljcgebegaaDoorProd
import Derived.Test.YtkkgeljcgebegaaDoorHeld
namespace Go.Proofs.YtkkgeljcgebegaaDoor
open Go.RowKit Go.Shelf
set_option linter.unusedVariables false
theorem andNot_top (x : Nat) (hx : x < 18446744073709551616) : bits .andNot .u64 (x : Int) 9223372036854775808 = ((x % 9223372036854775808 : Nat) : Int) := by
  have h1 : (BitVec.ofInt 64 (x : Int)).toNat = x := by
    rw [BitVec.ofInt_natCast, BitVec.toNat_ofNat]; exact Nat.mod_eq_of_lt (by omega)
  show IntKind.u64.wrap ((BitVec.ofInt 64 (x : Int) &&& ~~~ BitVec.ofInt 64 9223372036854775808).toNat : Int) = _
  have h2 : (~~~ BitVec.ofInt 64 9223372036854775808).toNat = 2 ^ 63 - 1 := by decide
  rw [BitVec.toNat_and, h1, h2, Nat.and_two_pow_sub_one_eq_mod, wrap_id (by have := Nat.mod_lt x (show 0 < 2 ^ 63 by decide); omega)]
theorem num_lit (N : Nat) : num N = #[.int .u64 (dig N 0 : Int), .int .u64 (dig N 1 : Int), .int .u64 (dig N 2 : Int), .int .u64 (dig N 3 : Int)] := rfl
theorem cut_words (N : Nat) (hN : N < 115792089237316195423570985008687907853269984665640564039457584007913129639936) : num (N % 57896044618658097711785492504343953926634992332820282019728792003956564819968) = #[.int .u64 (dig N 0 : Int), .int .u64 (dig N 1 : Int), .int .u64 (dig N 2 : Int), .int .u64 ((dig N 3 % 9223372036854775808 : Nat) : Int)] := by
  have e0 : dig (N % 57896044618658097711785492504343953926634992332820282019728792003956564819968) 0 = dig N 0 := by rw [dig_0, dig_0]; omega
  have e1 : dig (N % 57896044618658097711785492504343953926634992332820282019728792003956564819968) 1 = dig N 1 := by rw [dig_1, dig_1]; omega
  have e2 : dig (N % 57896044618658097711785492504343953926634992332820282019728792003956564819968) 2 = dig N 2 := by rw [dig_2, dig_2]; omega
  have e3 : dig (N % 57896044618658097711785492504343953926634992332820282019728792003956564819968) 3 = dig N 3 % 9223372036854775808 := by rw [dig_3, dig_3]; omega
  rw [num_lit, e0, e1, e2, e3]
set_option maxRecDepth 100000 in
set_option maxHeartbeats 1000000 in
theorem cut_any (N : Nat) (hN : N < 115792089237316195423570985008687907853269984665640564039457584007913129639936) (w : World) :
    Calls Tryd.prog 32 #[.agg (num N)] w fun e w' => e = .returned (.agg (num (N % 57896044618658097711785492504343953926634992332820282019728792003956564819968))) ∧ Below w.heap.size w w' := by
  rw [cut_words N hN]
  have hb := andNot_top (dig N 3) (dig_lt N 3)
  rw [num_lit]
  generalize dig N 3 % 9223372036854775808 = m3 at *
  generalize dig N 0 = n0 at *
  generalize dig N 1 = n1 at *
  generalize dig N 2 = n2 at *
  generalize dig N 3 = n3 at *
  have hz : ∀ w : World, (zeroValue 24).run Tryd.prog w = .ok (.agg #[.int .u64 0, .int .u64 0, .int .u64 0, .int .u64 0]) w := fun w => by kernel_rfl
  clear hN
  go_enter Tryd.func32, Tryd.ntmps32
  go_wp2
  exact bodyPost_ret (v := .agg #[.int .u64 n0, .int .u64 n1, .int .u64 n2, .int .u64 m3]) (by simp [results, Tryd.results32, go_sem]) rfl ⟨rfl, by
    repeat (refine bel_alloc ?_ (by simp <;> omega) _)
    exact Below.refl _ _⟩
theorem bcell {W w1 : World} (hb : Below W.heap.size W w1) : (∀ b o, b < W.heap.size → w1.cell? ⟨b, o, none⟩ = W.cell? ⟨b, o, none⟩) ∧ (∀ b o, b < W.heap.size → w1.frozen? ⟨b, o, none⟩ = W.frozen? ⟨b, o, none⟩) :=
  ⟨fun b o h => hb.cell (p := ⟨b, o, none⟩) h, fun b o h => hb.frozen (p := ⟨b, o, none⟩) h⟩
end Go.Proofs.YtkkgeljcgebegaaDoor
