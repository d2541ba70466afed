/- Sums of 32 bits are linear by exclusive or: of three texts of one length; of one byte; of turned bytes. Plain arithmetic. -/
import Derived.Test.YtmmgnjgnjgjhmaaMath
namespace Go.Proofs.Ytmmgnjgnjgjhmaa

theorem xor_div_256 (a b : Nat) : (a ^^^ b) / 256 = a / 256 ^^^ b / 256 := by
  have := @Nat.xor_div_two_pow a b 8
  simpa using this
theorem xor_mod_256 (a b : Nat) : (a ^^^ b) % 256 = a % 256 ^^^ b % 256 := by
  have := @Nat.xor_mod_two_pow a b 8
  simpa using this
theorem xor4 (a b c d : Nat) : (a ^^^ b) ^^^ (c ^^^ d) = (a ^^^ c) ^^^ (b ^^^ d) := by
  rw [Nat.xor_assoc, Nat.xor_assoc, ← Nat.xor_assoc b c d, Nat.xor_comm b c, Nat.xor_assoc c b d]
theorem up_xor (a b x y : Nat) : up (a ^^^ b) (x ^^^ y) = up a x ^^^ up b y := by
  unfold up
  rw [xor_div_256, xor_mod_256, xor4 (a % 256), tabN_xor, xor4]
theorem crcSt_xor : ∀ (L M P : List UInt8) (a b : Nat), L.length = M.length → M.length = P.length → (∀ j, P.getD j 0 = L.getD j 0 ^^^ M.getD j 0) →
    crcSt (a ^^^ b) P = crcSt a L ^^^ crcSt b M
  | [], [], [], a, b, _, _, _ => rfl
  | x :: L, y :: M, z :: P, a, b, h1, h2, h => by
    have h0 : z = x ^^^ y := h 0
    have ht : ∀ j, P.getD j 0 = L.getD j 0 ^^^ M.getD j 0 := fun j => h (j + 1)
    show crcSt (up (a ^^^ b) z.toNat) P = crcSt (up a x.toNat) L ^^^ crcSt (up b y.toNat) M
    rw [h0, UInt8.toNat_xor, up_xor]
    exact crcSt_xor L M P _ _ (by simpa using h1) (by simpa using h2) ht
  | [], _ :: _, _, _, _, h1, _, _ => by simp at h1
  | _ :: _, [], _, _, _, h1, _, _ => by simp at h1
  | [], [], _ :: _, _, _, _, h2, _ => by simp at h2
  | _ :: _, _ :: _, [], _, _, _, h2, _ => by simp at h2
theorem crcN_mix (S T U Q P : List UInt8) (h1 : S.length = T.length) (h2 : T.length = Q.length) (h3 : Q.length = U.length) (h4 : U.length = P.length)
    (hq : ∀ j, Q.getD j 0 = S.getD j 0 ^^^ T.getD j 0) (hp : ∀ j, P.getD j 0 = Q.getD j 0 ^^^ U.getD j 0) : crcN P = crcN S ^^^ crcN T ^^^ crcN U := by
  have e1 := crcSt_xor S T Q 4294967295 4294967295 h1 h2 hq
  have e2 := crcSt_xor Q U P (4294967295 ^^^ 4294967295) 4294967295 h3 h4 hp
  rw [e1, show 4294967295 ^^^ 4294967295 ^^^ 4294967295 = 4294967295 from rfl] at e2
  unfold crcN
  rw [e2]
  generalize crcSt 4294967295 S = a
  generalize crcSt 4294967295 T = b
  generalize crcSt 4294967295 U = c
  rw [xor4 4294967295 a 4294967295 b, xor4 (4294967295 ^^^ 4294967295) (a ^^^ b) 4294967295 c]
  rfl
end Go.Proofs.Ytmmgnjgnjgjhmaa
