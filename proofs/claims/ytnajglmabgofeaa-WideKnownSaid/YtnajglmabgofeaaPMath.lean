/- The plain arithmetic of package wide's roots: products of words, squares and cubes of a number with bits behind its point, roots bit by bit; the first primes by trial. No condition. -/
import Derived.Test.YtnajglmabgofeaaRoot
namespace Go.Proofs.Ytnajglmabgofeaa
def mulHi (x y : Nat) : Nat := x * y / 18446744073709551616
def mulLo (x y : Nat) : Nat := x * y % 18446744073709551616
structure L3 where
  a : Nat
  b : Nat
  c : Nat
def tmMid (x : L3) (n : Nat) : Nat := mulHi x.a n + mulLo x.b n
def tmHigh (x : L3) (n : Nat) : Nat := mulHi x.b n + mulLo x.c n + tmMid x n / 18446744073709551616
def timesL (x : L3) (n : Nat) : L3 := ⟨mulLo x.a n, tmMid x n % 18446744073709551616, tmHigh x n % 18446744073709551616⟩
def timesO (x : L3) (n : Nat) : Nat := (mulHi x.c n + tmHigh x n / 18446744073709551616) % 18446744073709551616
def sqN (w f : Nat) : Nat := ((timesL ⟨f, 2 * w % 18446744073709551616, 0⟩ f).c + w * w % 18446744073709551616) % 18446744073709551616
def cuMid (w f : Nat) : L3 :=
  let l := timesL ⟨f, 3 * w % 18446744073709551616, 0⟩ f
  ⟨l.a, l.b, (l.c + 3 * w % 18446744073709551616 * w % 18446744073709551616) % 18446744073709551616⟩
def cuN (w f : Nat) : Nat := (timesO (cuMid w f) f + w * w % 18446744073709551616 * w % 18446744073709551616) % 18446744073709551616
/-- The bits below n, found one by one. -/
def bitsTo (pw : Nat → Nat → Nat) (p w : Nat) : Nat → Nat → Nat
  | 0, f => f
  | n + 1, f => bitsTo pw p w n (if pw w (f ||| 2 ^ n) < p then f ||| 2 ^ n else f)
def wholeTo (pw : Nat → Nat → Nat) (p : Nat) : Nat → Nat → Nat
  | 0, k => k
  | n + 1, k => if pw (k + 1) 0 ≤ p then wholeTo pw p n (k + 1) else k
def wholeN (pw : Nat → Nat → Nat) (p : Nat) : Nat := wholeTo pw p 30 0
def rootN (pw : Nat → Nat → Nat) (p : Nat) : Nat := force (wholeN pw p) fun w => bitsTo pw p w 64 0
def prTo (p : Nat) : Nat → Nat → Bool
  | 0, _ => true
  | n + 1, q => if q * q ≤ p then (if p % q = 0 then false else prTo p n (q + 1)) else true
def isPr (p : Nat) : Bool := prTo p 30 2
/-- The whole part is below thirty, and the loop that finds it ends there. -/
def wholeOk (pw : Nat → Nat → Nat) (p : Nat) : Bool := decide (wholeN pw p < 30) && (List.range (wholeN pw p)).all (fun k => decide (pw (k + 1) 0 ≤ p)) && decide (p < pw (wholeN pw p + 1) 0)
theorem cu_all : pL.map (rootN cuN) = kL := by decide +kernel
theorem sq_all : (pL.take 8).map (rootN sqN) = [h0.a, h0.b, h0.c, h0.d, h0.e, h0.f, h0.g, h0.h] := by decide +kernel
theorem cu_whole : pL.all (wholeOk cuN) = true := by decide +kernel
theorem sq_whole : (pL.take 8).all (wholeOk sqN) = true := by decide +kernel
def qB (k : Nat) : List Nat := pL.filter fun p => decide (p < k)
theorem qB_pr : ∀ k, k < 410 → 2 ≤ k → qB (k + 1) = if isPr k then qB k ++ [k] else qB k := by decide +kernel
theorem isPr_in : ∀ k, k < 410 → 2 ≤ k → isPr k = true → k ∈ pL := by decide +kernel
end Go.Proofs.Ytnajglmabgofeaa
