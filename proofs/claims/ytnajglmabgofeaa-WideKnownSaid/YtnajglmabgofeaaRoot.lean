/- The plain arithmetic of the document's roots: numbers of 256 bits as four words, added, moved up, compared; roots bit by bit; the first primes. No condition. -/
import Derived.Test.YtnajglmabgofeaaMath
namespace Go.Proofs.Ytnajglmabgofeaa
/-- Four words, the lowest first. -/
structure N4 where
  a : Nat
  b : Nat
  c : Nat
  d : Nat
def mk4 (a b c d : Nat) : N4 := force a fun a => force b fun b => force c fun c => force d fun d => ⟨a, b, c, d⟩
theorem mk4_eq (a b c d : Nat) : mk4 a b c d = ⟨a, b, c, d⟩ := by unfold mk4; simp only [force_eq]
def M64 : Nat := 18446744073709551616
/-- A sum of two, modulo 2 to the power of 256. -/
def addL (x y : N4) : N4 :=
  force (x.a + y.a) fun s0 => force (x.b + y.b + s0 / 18446744073709551616) fun s1 => force (x.c + y.c + s1 / 18446744073709551616) fun s2 => force (x.d + y.d + s2 / 18446744073709551616) fun s3 =>
    mk4 (s0 % 18446744073709551616) (s1 % 18446744073709551616) (s2 % 18446744073709551616) (s3 % 18446744073709551616)
def carL (x y : N4) : Nat := (x.d + y.d + (x.c + y.c + (x.b + y.b + (x.a + y.a) / 18446744073709551616) / 18446744073709551616) / 18446744073709551616) / 18446744073709551616
def at4 (x : N4) : Nat → Nat
  | 0 => x.a
  | 1 => x.b
  | 2 => x.c
  | _ => x.d
/-- The i-th word of a number moved up by n bits. -/
def upW (x : N4) (n i : Nat) : Nat :=
  if i < n / 64 then 0 else if i = n / 64 then at4 x 0 * 2 ^ (n % 64) % 18446744073709551616
    else at4 x (i - n / 64) * 2 ^ (n % 64) % 18446744073709551616 ||| at4 x (i - n / 64 - 1) / 2 / 2 ^ (63 - n % 64)
def upL (x : N4) (n : Nat) : N4 := mk4 (upW x n 0) (upW x n 1) (upW x n 2) (upW x n 3)
def lessL (x y : N4) : Bool := if x.d = y.d then (if x.c = y.c then (if x.b = y.b then decide (x.a < y.a) else decide (x.b < y.b)) else decide (x.c < y.c)) else decide (x.d < y.d)
def sumL (x y z : N4) : N4 := addL (addL x y) z
structure R3 where
  x : N4
  s : N4
  c : N4
def one4 : N4 := ⟨1, 0, 0, 0⟩
def sqL (r : R3) (i : Nat) : N4 := sumL r.s (upL r.x (i + 1)) (upL one4 (2 * i))
def cuStep (r : R3) (i : Nat) (c : N4) : N4 := sumL c (upL r.s i) (upL r.x (2 * i))
def cuL (r : R3) (i : Nat) : N4 := addL (cuStep r i (cuStep r i (cuStep r i r.c))) (upL one4 (3 * i))
def setBit (x : N4) (i : Nat) : N4 := if i / 64 = 0 then ⟨x.a ||| 2 ^ (i % 64), x.b, x.c, x.d⟩ else ⟨x.a, x.b ||| 2 ^ (i % 64), x.c, x.d⟩
def fix4 (x : N4) : N4 := mk4 x.a x.b x.c x.d
def rStep (a : N4) (p3 : Bool) (r : R3) (i : Nat) : R3 :=
  let s := sqL r i
  let c := cuL r i
  if lessL a (if p3 then c else s) then r else ⟨setBit r.x i, s, c⟩
/-- Behind all bits from 69 down to i. -/
def rTo (a : N4) (p3 : Bool) : Nat → R3 → R3
  | 0, r => r
  | k + 1, r => rTo a p3 k (rStep a p3 r k)
def r0 : R3 := ⟨⟨0, 0, 0, 0⟩, ⟨0, 0, 0, 0⟩, ⟨0, 0, 0, 0⟩⟩
def rootL (a : N4) (p3 : Bool) : N4 := (rTo a p3 70 r0).x
def cons (p : Nat) : Nat := (rootL ⟨0, 0, 0, p⟩ true).a
def sqr (p : Nat) : Nat := (rootL ⟨0, 0, p, 0⟩ false).a
def pL : List Nat := [2, 3, 5, 7, 11, 13, 17, 19, 23, 29, 31, 37, 41, 43, 47, 53, 59, 61, 67, 71, 73, 79, 83, 89, 97, 101, 103, 107, 109, 113, 127, 131, 137, 139, 149, 151, 157, 163, 167, 173, 179, 181, 191, 193, 197, 199, 211, 223, 227, 229, 233, 239, 241, 251, 257, 263, 269, 271, 277, 281, 283, 293, 307, 311, 313, 317, 331, 337, 347, 349, 353, 359, 367, 373, 379, 383, 389, 397, 401, 409]
theorem cons_all : pL.map cons = kL := by decide +kernel
theorem sqr_all : (pL.take 8).map sqr = [7640891576956012808, 13503953896175478587, 4354685564936845355, 11912009170470909681, 5840696475078001361, 11170449401992604703, 2270897969802886507, 6620516959819538809] := by decide +kernel
end Go.Proofs.Ytnajglmabgofeaa
