/- prime of package wide: whether a number up to 410 is a prime. -/
import Derived.Test.YtnajglmabgofeaaPow
namespace Go.Proofs.Ytnajglmabgofeaa
open Go.RowKit
set_option linter.unusedVariables false
theorem sq_bound (q : Nat) : 22 ≤ q → 484 ≤ q * q := fun h => Nat.mul_le_mul h h
theorem prTo_step (p n q : Nat) : prTo p (n + 1) q = if q * q ≤ p then (if p % q = 0 then false else prTo p n (q + 1)) else true := rfl
set_option maxRecDepth 100000 in
set_option maxHeartbeats 1000000 in
theorem prime_any (p : Nat) (hp : p ≤ 410) (w : World) : Calls Try.prog 23 #[.int .u64 p] w fun e w' => e = .returned (.bool (isPr p)) ∧ w = w' := by
  obtain ⟨out, hout⟩ : ∃ out, Hid (out = isPr p) := ⟨_, Lib.hid rfl⟩
  rw [← hout.out]
  go_enter Try.func23, Try.ntmps23
  go_wp2
  go_loop [3] (fun v => ∃ n q : Nat, 2 ≤ q ∧ q ≤ 22 ∧ n + q = 32 ∧ v = .int .u64 q ∧ Hid (prTo p n q = out)) (fun v => 22 - (intOf v).toNat)
  case atStart => exact ⟨30, 2, by omega, by omega, by omega, rfl, by rw [hout.out]; exact Lib.hid rfl⟩
  case round =>
    obtain ⟨n, q, hq2, hq3, hnq, rfl, hpr⟩ := hrel
    obtain ⟨qq, hqq⟩ : ∃ qq, qq = q * q := ⟨_, rfl⟩
    have e1 : (q : Int) * (q : Int) = (qq : Int) := by rw [hqq, Int.natCast_mul]
    have hqb : qq ≤ 484 := by rw [hqq]; exact Nat.mul_le_mul hq3 hq3
    obtain ⟨m, rfl⟩ : ∃ m, n = m + 1 := ⟨n - 1, by omega⟩
    have hst := hpr.out
    rw [prTo_step, ← hqq] at hst
    clear hpr
    by_cases hle : qq ≤ p
    · have hq22 : q < 22 := by
        rcases Nat.lt_or_ge q 22 with h | h
        · exact h
        · have := sq_bound q h
          omega
      rw [if_pos hle] at hst
      clear hqq
      by_cases hm : p % q = 0
      · rw [if_pos hm] at hst
        have em : (p : Int) % (q : Int) = 0 := by omega
        subst hst
        clear hm
        go_wp2
        go_ret
        exact ⟨rfl, rfl⟩
      · rw [if_neg hm] at hst
        have em : ¬ (p : Int) % (q : Int) = 0 := by omega
        have HST := Lib.hid hst
        clear hst hm
        go_wp2
        go_round
        case rel => exact ⟨m, q + 1, by omega, by omega, by omega, by go_num, HST⟩
        case measure => simp [intOf]; omega
    · rw [if_neg hle] at hst
      subst hst
      clear hqq
      go_wp2
      go_ret
      exact ⟨rfl, rfl⟩
end Go.Proofs.Ytnajglmabgofeaa
