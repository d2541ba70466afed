/- Turning to the right, near and far of package sha, and the document's turning. No condition but that the numbers have 32 bits. -/
import Derived.Test.YtjkbbndiickcnaaDoorBase
import Derived.Test.YtjkbbndiickcnaaDoorMath
import Derived.Outline
import Derived.BigQuiet
import Derived.Deep.QuietTactic
namespace Go.Proofs.YtjkbbndiickcnaaDoor
open Go.RowKit
set_option linter.unusedVariables false
theorem mask_of (n : Nat) (h0 : 0 < n) (hn : n < 32) : bits BinOp.and IntKind.u64 (IntKind.u64.wrap (-(n : Int))) 31 = ((32 - n : Nat) : Int) := by
  have h : ∀ n : Nat, n < 32 → 0 < n → bits BinOp.and IntKind.u64 (IntKind.u64.wrap (-(n : Int))) 31 = ((32 - n : Nat) : Int) := by decide +kernel
  exact h n hn h0
theorem ret_nat {k : IntKind} {a b : Nat} (h : a = b) : Ending.returned (.int k a) = .returned (.int k b) := by rw [h]
theorem ret_int {k : IntKind} {a b : Int} (h : a = b) : Ending.returned (.int k a) = .returned (.int k b) := by rw [h]
theorem shl_cast (x m : Nat) : ((x : Int) * 2 ^ m % 4294967296) = ((x * 2 ^ m % 4294967296 : Nat) : Int) := by rw [Int.natCast_emod, Int.natCast_mul, Int.natCast_pow]; rfl
theorem shr_cast (x m : Nat) : ((x : Int) / 2 ^ m) = ((x / 2 ^ m : Nat) : Int) := by rw [Int.natCast_ediv, Int.natCast_pow]; rfl
theorem or_turn (x m : Nat) (hx : x < 4294967296) (hm : m < 32) : bits BinOp.or IntKind.u32 ((x : Int) * 2 ^ m % 4294967296) ((x : Int) / 2 ^ (32 - m)) = ((rorN x (32 - m) : Nat) : Int) := by
  have h := u32_or_nat (x * 2 ^ m % 4294967296) (x / 2 ^ (32 - m)) (Nat.mod_lt _ (by decide)) (div_lt _ hx)
  rw [shl_cast, shr_cast, h]
  unfold rorN
  rw [Nat.or_comm, show 32 - (32 - m) = m by omega]
theorem or_turn2 (x n : Nat) (hx : x < 4294967296) (hn : n < 32) : bits BinOp.or IntKind.u32 ((x : Int) / 2 ^ n) ((x : Int) * 2 ^ (32 - n) % 4294967296) = ((rorN x n : Nat) : Int) := by
  have h := u32_or_nat (x / 2 ^ n) (x * 2 ^ (32 - n) % 4294967296) (div_lt _ hx) (Nat.mod_lt _ (by decide))
  rw [shl_cast, shr_cast, h]
  rfl

theorem rot_any (x n : Nat) (hx : x < 4294967296) (h0 : 0 < n) (hn : n < 32) (w : World) :
    Calls Tryd.prog 37 #[.int .u32 x, .int .i64 (-(n : Int))] w fun e w' => e = .returned (.int .u32 (rorN x n)) ∧ w = w' := by
  obtain ⟨m, hm⟩ : ∃ m, 32 - n = m := ⟨_, rfl⟩
  have hb := mask_of n h0 hn
  rw [hm] at hb
  obtain rfl : n = 32 - m := by omega
  have hm1 : m < 32 := by omega
  have HO := Lib.hid (or_turn x m hx hm1)
  clear hm
  go_enter Tryd.func37, Tryd.ntmps37
  go_wp2
  go_ret
  exact ⟨ret_int HO.out, rfl⟩
theorem ror_any (x n : Nat) (k : Int) (hk : k = n) (hx : x < 4294967296) (h0 : 0 < n) (hn : n < 32) (w : World) :
    Calls Tryd.prog 34 #[.int .u32 x, .int .i64 k] w fun e w' => e = .returned (.int .u32 (rorN x n)) ∧ w = w' := by
  subst hk
  go_enter Tryd.func34, Tryd.ntmps34
  go_wp2_with fail
  refine (rot_any x n hx h0 hn _).mono ?_
  rintro e w' ⟨rfl, rfl⟩
  go_wp2
  go_ret
  exact ⟨rfl, rfl⟩
theorem near_any (x : Nat) (hx : x < 4294967296) (w : World) :
    Calls Tryd.prog 35 #[.int .u32 x] w fun e w' => e = .returned (.int .u32 (nearN x)) ∧ w = w' := by
  have l1 := rorN_lt 7 hx
  have l2 := rorN_lt 18 hx
  have x1 := u32_xor_nat (rorN x 7) (rorN x 18) l1 l2
  have x2 : bits .xor .u32 ((rorN x 7 ^^^ rorN x 18 : Nat) : Int) ((x : Int) / 8) = ((nearN x : Nat) : Int) := u32_xor_nat (rorN x 7 ^^^ rorN x 18) (x / 8) (xor_lt l1 l2) (div_lt _ hx)
  have H1 := Lib.hid (ror_any x 7 7 rfl hx (by decide) (by decide))
  have H2 := Lib.hid (ror_any x 18 18 rfl hx (by decide) (by decide))
  generalize rorN x 7 ^^^ rorN x 18 = q at *
  generalize nearN x = r at *
  generalize rorN x 7 = p1 at *
  generalize rorN x 18 = p2 at *
  clear l1 l2
  go_enter Tryd.func35, Tryd.ntmps35
  go_wp2_with fail
  refine (H1.out _).mono ?_
  rintro e w' ⟨rfl, rfl⟩
  go_wp2_with fail
  refine (H2.out _).mono ?_
  rintro e w' ⟨rfl, rfl⟩
  go_wp2
  go_ret
  exact ⟨rfl, rfl⟩
theorem far_any (x : Nat) (hx : x < 4294967296) (w : World) :
    Calls Tryd.prog 36 #[.int .u32 x] w fun e w' => e = .returned (.int .u32 (farN x)) ∧ w = w' := by
  have l1 := rorN_lt 17 hx
  have l2 := rorN_lt 19 hx
  have x1 := u32_xor_nat (rorN x 17) (rorN x 19) l1 l2
  have x2 : bits .xor .u32 ((rorN x 17 ^^^ rorN x 19 : Nat) : Int) ((x : Int) / 1024) = ((farN x : Nat) : Int) := u32_xor_nat (rorN x 17 ^^^ rorN x 19) (x / 1024) (xor_lt l1 l2) (div_lt _ hx)
  have H1 := Lib.hid (ror_any x 17 17 rfl hx (by decide) (by decide))
  have H2 := Lib.hid (ror_any x 19 19 rfl hx (by decide) (by decide))
  generalize rorN x 17 ^^^ rorN x 19 = q at *
  generalize farN x = r at *
  generalize rorN x 17 = p1 at *
  generalize rorN x 19 = p2 at *
  clear l1 l2
  go_enter Tryd.func36, Tryd.ntmps36
  go_wp2_with fail
  refine (H1.out _).mono ?_
  rintro e w' ⟨rfl, rfl⟩
  go_wp2_with fail
  refine (H2.out _).mono ?_
  rintro e w' ⟨rfl, rfl⟩
  go_wp2
  go_ret
  exact ⟨rfl, rfl⟩
/-- The document's. -/
theorem rror_any (x n : Nat) (k : Int) (hk : k = n) (hx : x < 4294967296) (h0 : 0 < n) (hn : n < 32) (w : World) :
    Calls Tryd.prog 22 #[.int .u32 x, .int .i64 k] w fun e w' => e = .returned (.int .u32 (rorN x n)) ∧ ∃ m, w' = w.drewN m := by
  subst hk
  have HO := Lib.hid (or_turn2 x n hx hn)
  go_enter Tryd.func22, Tryd.ntmps22
  go_wp2
  go_quiet (fail)
  go_wp2
  go_ret
  exact ⟨ret_int HO.out, _, rfl⟩
end Go.Proofs.YtjkbbndiickcnaaDoor
