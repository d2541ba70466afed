/- Turning to the right, near and far of package wide, and the document's turning. No condition but that the numbers have 64 bits. -/
import Derived.Test.YtnajglmabgofeaaBase
import Derived.Test.YtnajglmabgofeaaMath
import Derived.Outline
import Derived.BigQuiet
import Derived.Deep.QuietTactic
namespace Go.Proofs.Ytnajglmabgofeaa
open Go.RowKit
set_option linter.unusedVariables false
theorem mask_of (n : Nat) (h0 : 0 < n) (hn : n < 64) : bits BinOp.and IntKind.u64 (IntKind.u64.wrap (-(n : Int))) 63 = ((64 - n : Nat) : Int) := by
  have h : ∀ n : Nat, n < 64 → 0 < n → bits BinOp.and IntKind.u64 (IntKind.u64.wrap (-(n : Int))) 63 = ((64 - n : Nat) : Int) := by decide +kernel
  exact h n hn h0
theorem ret_nat {k : IntKind} {a b : Nat} (h : a = b) : Ending.returned (.int k a) = .returned (.int k b) := by rw [h]
theorem ret_int {k : IntKind} {a b : Int} (h : a = b) : Ending.returned (.int k a) = .returned (.int k b) := by rw [h]
theorem wrapM (n : Nat) : IntKind.u64.wrap (n : Int) = ((n % 18446744073709551616 : Nat) : Int) := by
  have h : IntKind.u64.wrap (n : Int) = (n : Int) % 18446744073709551616 := by simp [IntKind.wrap, IntKind.bits, IntKind.signed]
  rw [h]; omega
theorem shl_cast (x m : Nat) : IntKind.u64.wrap ((x : Int) * 2 ^ m) = ((x * 2 ^ m % 18446744073709551616 : Nat) : Int) := by
  rw [← wrapM, Int.natCast_mul, Int.natCast_pow]; rfl
theorem shr_cast (x m : Nat) : ((x : Int) / 2 ^ m) = ((x / 2 ^ m : Nat) : Int) := by rw [Int.natCast_ediv, Int.natCast_pow]; rfl
theorem or_turn (x m : Nat) (hx : x < 18446744073709551616) (hm : m < 64) : bits BinOp.or IntKind.u64 (IntKind.u64.wrap ((x : Int) * 2 ^ m)) ((x : Int) / 2 ^ (64 - m)) = ((rorN x (64 - m) : Nat) : Int) := by
  have h := bits_or_u64_nat (x * 2 ^ m % 18446744073709551616) (x / 2 ^ (64 - m)) (Nat.mod_lt _ (by decide)) (div_lt _ hx)
  rw [shl_cast, shr_cast, h]
  unfold rorN
  rw [Nat.or_comm, show 64 - (64 - m) = m by omega]
theorem or_turn2 (x n : Nat) (hx : x < 18446744073709551616) (hn : n < 64) : bits BinOp.or IntKind.u64 ((x : Int) / 2 ^ n) (IntKind.u64.wrap ((x : Int) * 2 ^ (64 - n))) = ((rorN x n : Nat) : Int) := by
  have h := bits_or_u64_nat (x / 2 ^ n) (x * 2 ^ (64 - n) % 18446744073709551616) (div_lt _ hx) (Nat.mod_lt _ (by decide))
  rw [shl_cast, shr_cast, h]
  rfl
theorem rot_any (x n : Nat) (hx : x < 18446744073709551616) (h0 : 0 < n) (hn : n < 64) (w : World) :
    Calls Try.prog 39 #[.int .u64 x, .int .i64 (-(n : Int))] w fun e w' => e = .returned (.int .u64 (rorN x n)) ∧ w = w' := by
  obtain ⟨m, hm⟩ : ∃ m, 64 - n = m := ⟨_, rfl⟩
  have hb := mask_of n h0 hn
  rw [hm] at hb
  obtain rfl : n = 64 - m := by omega
  have hm1 : m < 64 := by omega
  have HO := Lib.hid (or_turn x m hx hm1)
  clear hm
  go_enter Try.func39, Try.ntmps39
  go_wp2
  go_ret
  exact ⟨ret_int HO.out, rfl⟩
theorem ror_any (x n : Nat) (k : Int) (hk : k = n) (hx : x < 18446744073709551616) (h0 : 0 < n) (hn : n < 64) (w : World) :
    Calls Try.prog 36 #[.int .u64 x, .int .i64 k] w fun e w' => e = .returned (.int .u64 (rorN x n)) ∧ w = w' := by
  subst hk
  go_enter Try.func36, Try.ntmps36
  go_wp2_with fail
  refine (rot_any x n hx h0 hn _).mono ?_
  rintro e w' ⟨rfl, rfl⟩
  go_wp2
  go_ret
  exact ⟨rfl, rfl⟩
theorem near_any (x : Nat) (hx : x < 18446744073709551616) (w : World) :
    Calls Try.prog 37 #[.int .u64 x] w fun e w' => e = .returned (.int .u64 (nearN x)) ∧ w = w' := by
  have l1 := rorN_lt 1 hx
  have l2 := rorN_lt 8 hx
  have x1 := u64_xor_nat (rorN x 1) (rorN x 8) l1 l2
  have x2 : bits .xor .u64 ((rorN x 1 ^^^ rorN x 8 : Nat) : Int) ((x : Int) / 128) = ((nearN x : Nat) : Int) := u64_xor_nat (rorN x 1 ^^^ rorN x 8) (x / 128) (xor_lt l1 l2) (div_lt _ hx)
  have H1 := Lib.hid (ror_any x 1 1 rfl hx (by decide) (by decide))
  have H2 := Lib.hid (ror_any x 8 8 rfl hx (by decide) (by decide))
  generalize rorN x 1 ^^^ rorN x 8 = q at *
  generalize nearN x = r at *
  generalize rorN x 1 = p1 at *
  generalize rorN x 8 = p2 at *
  clear l1 l2
  go_enter Try.func37, Try.ntmps37
  go_wp2_with fail
  refine (H1.out _).mono ?_
  rintro e w' ⟨rfl, rfl⟩
  go_wp2_with fail
  refine (H2.out _).mono ?_
  rintro e w' ⟨rfl, rfl⟩
  go_wp2
  go_ret
  exact ⟨rfl, rfl⟩
theorem far_any (x : Nat) (hx : x < 18446744073709551616) (w : World) :
    Calls Try.prog 38 #[.int .u64 x] w fun e w' => e = .returned (.int .u64 (farN x)) ∧ w = w' := by
  have l1 := rorN_lt 19 hx
  have l2 := rorN_lt 61 hx
  have x1 := u64_xor_nat (rorN x 19) (rorN x 61) l1 l2
  have x2 : bits .xor .u64 ((rorN x 19 ^^^ rorN x 61 : Nat) : Int) ((x : Int) / 64) = ((farN x : Nat) : Int) := u64_xor_nat (rorN x 19 ^^^ rorN x 61) (x / 64) (xor_lt l1 l2) (div_lt _ hx)
  have H1 := Lib.hid (ror_any x 19 19 rfl hx (by decide) (by decide))
  have H2 := Lib.hid (ror_any x 61 61 rfl hx (by decide) (by decide))
  generalize rorN x 19 ^^^ rorN x 61 = q at *
  generalize farN x = r at *
  generalize rorN x 19 = p1 at *
  generalize rorN x 61 = p2 at *
  clear l1 l2
  go_enter Try.func38, Try.ntmps38
  go_wp2_with fail
  refine (H1.out _).mono ?_
  rintro e w' ⟨rfl, rfl⟩
  go_wp2_with fail
  refine (H2.out _).mono ?_
  rintro e w' ⟨rfl, rfl⟩
  go_wp2
  go_ret
  exact ⟨rfl, rfl⟩
/-- The document's. -/
theorem rror_any (x n : Nat) (k : Int) (hk : k = n) (hx : x < 18446744073709551616) (h0 : 0 < n) (hn : n < 64) (w : World) :
    Calls Try.prog 21 #[.int .u64 x, .int .i64 k] w fun e w' => e = .returned (.int .u64 (rorN x n)) ∧ ∃ m, w' = w.drewN m := by
  subst hk
  have HO := Lib.hid (or_turn2 x n hx hn)
  go_enter Try.func21, Try.ntmps21
  go_wp2
  go_quiet (fail)
  go_wp2
  go_ret
  exact ⟨ret_int HO.out, _, rfl⟩
end Go.Proofs.Ytnajglmabgofeaa
