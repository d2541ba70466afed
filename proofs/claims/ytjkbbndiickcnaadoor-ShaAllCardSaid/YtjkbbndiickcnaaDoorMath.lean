/- The plain arithmetic of hashes of 32 bytes: words, rounds, blocks, what fills up. No condition. -/
import Derived.KernelRfl
namespace Go.Proofs.YtjkbbndiickcnaaDoor

/-- A number that is first worked out, then used. -/
def force {α : Type} (x : Nat) (f : Nat → α) : α := match x with
  | 0 => f 0
  | n + 1 => f (n + 1)
theorem force_eq {α : Type} (x : Nat) (f : Nat → α) : force x f = f x := by unfold force; cases x <;> rfl

def add (a b : Nat) : Nat := (a + b) % 4294967296
def rorN (x n : Nat) : Nat := x / 2 ^ n ||| x * 2 ^ (32 - n) % 4294967296
def nearN (x : Nat) : Nat := rorN x 7 ^^^ rorN x 18 ^^^ x / 8
def farN (x : Nat) : Nat := rorN x 17 ^^^ rorN x 19 ^^^ x / 1024

/-- Four bytes at a place, the highest first. -/
def be (l : List UInt8) (i : Nat) : Nat := (l.getD (4 * i) 0).toNat * 16777216 + (l.getD (4 * i + 1) 0).toNat * 65536 + (l.getD (4 * i + 2) 0).toNat * 256 + (l.getD (4 * i + 3) 0).toNat
def nx (q : List Nat) : Nat := add (add (add (q.getD 15 0) (nearN (q.getD 14 0))) (q.getD 6 0)) (farN (q.getD 1 0))
def wrev (l : List UInt8) : Nat → List Nat
  | 0 => [be l 15, be l 14, be l 13, be l 12, be l 11, be l 10, be l 9, be l 8, be l 7, be l 6, be l 5, be l 4, be l 3, be l 2, be l 1, be l 0]
  | k + 1 => nx (wrev l k) :: wrev l k
/-- The i-th number that a block is made into. -/
def W (l : List UInt8) (i : Nat) : Nat := (wrev l (i - 15)).getD (15 - i) 0

structure St where
  a : Nat
  b : Nat
  c : Nat
  d : Nat
  e : Nat
  f : Nat
  g : Nat
  h : Nat
def uN (s : St) (k w : Nat) : Nat := add (add (add (add s.h (rorN s.e 6 ^^^ rorN s.e 11 ^^^ rorN s.e 25)) ((s.e &&& s.f) ^^^ ((4294967295 ^^^ s.e) &&& s.g))) k) w
def vN (s : St) : Nat := add (rorN s.a 2 ^^^ rorN s.a 13 ^^^ rorN s.a 22) ((s.a &&& s.b) ^^^ (s.a &&& s.c) ^^^ (s.b &&& s.c))
def rnd (s : St) (k w : Nat) : St := ⟨add (uN s k w) (vN s), s.a, s.b, s.c, add s.d (uN s k w), s.e, s.f, s.g⟩
def kL : List Nat := [1116352408, 1899447441, 3049323471, 3921009573, 961987163, 1508970993, 2453635748, 2870763221, 3624381080, 310598401, 607225278, 1426881987, 1925078388, 2162078206, 2614888103, 3248222580, 3835390401, 4022224774, 264347078, 604807628, 770255983, 1249150122, 1555081692, 1996064986, 2554220882, 2821834349, 2952996808, 3210313671, 3336571891, 3584528711, 113926993, 338241895, 666307205, 773529912, 1294757372, 1396182291, 1695183700, 1986661051, 2177026350, 2456956037, 2730485921, 2820302411, 3259730800, 3345764771, 3516065817, 3600352804, 4094571909, 275423344, 430227734, 506948616, 659060556, 883997877, 958139571, 1322822218, 1537002063, 1747873779, 1955562222, 2024104815, 2227730452, 2361852424, 2428436474, 2756734187, 3204031479, 3329325298]
def kN (i : Nat) : Nat := kL.getD i 0
def rnds (l : List UInt8) (s : St) : Nat → St
  | 0 => s
  | i + 1 => rnd (rnds l s i) (kN i) (W l i)
def plus (s t : St) : St := ⟨add s.a t.a, add s.b t.b, add s.c t.c, add s.d t.d, add s.e t.e, add s.f t.f, add s.g t.g, add s.h t.h⟩
/-- The numbers behind one block more. -/
def comp (s : St) (l : List UInt8) : St := plus s (rnds l s 64)
def h0 : St := ⟨1779033703, 3144134277, 1013904242, 2773480762, 1359893119, 2600822924, 528734635, 1541459225⟩
def chunk (l : List UInt8) (i : Nat) : List UInt8 := (l.drop (64 * i)).take 64
def mids (s : St) (l : List UInt8) : Nat → St
  | 0 => s
  | k + 1 => comp (mids s l k) (chunk l k)
def be4 (n : Nat) : List UInt8 := [UInt8.ofNat (n / 16777216), UInt8.ofNat (n / 65536), UInt8.ofNat (n / 256), UInt8.ofNat n]
def be8 (n : Nat) : List UInt8 := [UInt8.ofNat (n / 72057594037927936), UInt8.ofNat (n / 281474976710656), UInt8.ofNat (n / 1099511627776), UInt8.ofNat (n / 4294967296), UInt8.ofNat (n / 16777216), UInt8.ofNat (n / 65536), UInt8.ofNat (n / 256), UInt8.ofNat n]
def tell (s : St) : List UInt8 := be4 s.a ++ be4 s.b ++ be4 s.c ++ be4 s.d ++ be4 s.e ++ be4 s.f ++ be4 s.g ++ be4 s.h
/-- How many bytes of nothing come behind the first one. -/
def fill (n : Nat) : Nat := (119 - n % 64) % 64
def tailN (n : Nat) : List UInt8 := 128 :: (List.replicate (fill n) 0 ++ be8 (8 * n))
def pad (l : List UInt8) : List UInt8 := l ++ tailN l.length
def sha (l : List UInt8) : List UInt8 := tell (mids h0 (pad l) ((pad l).length / 64))

def hexd (n : Nat) : UInt8 := if n < 10 then UInt8.ofNat (48 + n) else UInt8.ofNat (87 + n)
def hex : List UInt8 → List UInt8
  | [] => []
  | c :: l => hexd (c.toNat / 16) :: hexd (c.toNat % 16) :: hex l

theorem add_lt (a b : Nat) : add a b < 4294967296 := Nat.mod_lt _ (by decide)
theorem xor_lt {a b : Nat} (ha : a < 4294967296) (hb : b < 4294967296) : a ^^^ b < 4294967296 := Nat.xor_lt_two_pow (n := 32) ha hb
theorem and_lt {a b : Nat} (ha : a < 4294967296) : a &&& b < 4294967296 := Nat.lt_of_le_of_lt Nat.and_le_left ha
theorem div_lt {a : Nat} (k : Nat) (ha : a < 4294967296) : a / k < 4294967296 := Nat.lt_of_le_of_lt (Nat.div_le_self _ _) ha
theorem rorN_lt {x : Nat} (n : Nat) (hx : x < 4294967296) : rorN x n < 4294967296 :=
  Nat.or_lt_two_pow (n := 32) (div_lt _ hx) (Nat.mod_lt _ (by decide))
theorem nearN_lt {x : Nat} (hx : x < 4294967296) : nearN x < 4294967296 := xor_lt (xor_lt (rorN_lt _ hx) (rorN_lt _ hx)) (div_lt _ hx)
theorem farN_lt {x : Nat} (hx : x < 4294967296) : farN x < 4294967296 := xor_lt (xor_lt (rorN_lt _ hx) (rorN_lt _ hx)) (div_lt _ hx)
theorem be_lt (l : List UInt8) (i : Nat) : be l i < 4294967296 := by
  have h1 := (l.getD (4 * i) 0).toNat_lt
  have h2 := (l.getD (4 * i + 1) 0).toNat_lt
  have h3 := (l.getD (4 * i + 2) 0).toNat_lt
  have h4 := (l.getD (4 * i + 3) 0).toNat_lt
  unfold be
  omega
theorem nx_lt (q : List Nat) : nx q < 4294967296 := add_lt _ _
theorem wrev_lt (l : List UInt8) : ∀ (k : Nat), ∀ x ∈ wrev l k, x < 4294967296
  | 0 => by
    intro x hx
    unfold wrev at hx
    simp only [List.mem_cons, List.not_mem_nil, or_false] at hx
    rcases hx with rfl | rfl | rfl | rfl | rfl | rfl | rfl | rfl | rfl | rfl | rfl | rfl | rfl | rfl | rfl | rfl <;> exact be_lt _ _
  | k + 1 => by
    intro x hx
    unfold wrev at hx
    rcases List.mem_cons.1 hx with rfl | h
    · exact nx_lt _
    · exact wrev_lt l k x h
theorem wrev_length (l : List UInt8) : ∀ k, (wrev l k).length = 16 + k
  | 0 => rfl
  | k + 1 => by show ((wrev l k).length + 1) = _; rw [wrev_length l k]; omega
theorem W_lt (l : List UInt8) (i : Nat) : W l i < 4294967296 := by
  unfold W
  rw [List.getD_eq_getElem?_getD]
  rcases h : (wrev l (i - 15))[15 - i]? with _ | v
  · simp
  · exact wrev_lt l _ _ (List.mem_of_getElem? h)
theorem wrev_get (l : List UInt8) : ∀ (k j : Nat), j < 16 + k → (wrev l k).getD j 0 = W l (15 + k - j)
  | 0, j, hj => by
    unfold W
    rw [show 15 + 0 - j - 15 = 0 by omega, show 15 - (15 + 0 - j) = j by omega]
  | k + 1, 0, _ => by
    unfold W
    rw [show 15 + (k + 1) - 0 - 15 = k + 1 by omega, show 15 - (15 + (k + 1) - 0) = 0 by omega]
  | k + 1, j + 1, hj => by
    have ih := wrev_get l k j (by omega)
    rw [show 15 + (k + 1) - (j + 1) = 15 + k - j by omega, ← ih]
    rfl
theorem W_low (l : List UInt8) (i : Nat) (hi : i < 16) : W l i = be l i := by
  rcases (show i = 0 ∨ i = 1 ∨ i = 2 ∨ i = 3 ∨ i = 4 ∨ i = 5 ∨ i = 6 ∨ i = 7 ∨ i = 8 ∨ i = 9 ∨ i = 10 ∨ i = 11 ∨ i = 12 ∨ i = 13 ∨ i = 14 ∨ i = 15 by omega) with rfl | rfl | rfl | rfl | rfl | rfl | rfl | rfl | rfl | rfl | rfl | rfl | rfl | rfl | rfl | rfl <;> rfl
theorem W_high (l : List UInt8) (i : Nat) (hi : 16 ≤ i) : W l i = add (add (add (W l (i - 16)) (nearN (W l (i - 15)))) (W l (i - 7))) (farN (W l (i - 2))) := by
  obtain ⟨k, rfl⟩ : ∃ k, i = 16 + k := ⟨i - 16, by omega⟩
  have h0 : W l (16 + k) = nx (wrev l k) := by
    unfold W
    rw [show 16 + k - 15 = k + 1 by omega, show 15 - (16 + k) = 0 by omega]
    rfl
  rw [h0]
  unfold nx
  rw [wrev_get l k 15 (by omega), wrev_get l k 14 (by omega), wrev_get l k 6 (by omega), wrev_get l k 1 (by omega)]
  rw [show 15 + k - 15 = 16 + k - 16 by omega, show 15 + k - 14 = 16 + k - 15 by omega, show 15 + k - 6 = 16 + k - 7 by omega, show 15 + k - 1 = 16 + k - 2 by omega]

def St.ok (s : St) : Prop := s.a < 4294967296 ∧ s.b < 4294967296 ∧ s.c < 4294967296 ∧ s.d < 4294967296 ∧ s.e < 4294967296 ∧ s.f < 4294967296 ∧ s.g < 4294967296 ∧ s.h < 4294967296
theorem rnd_ok {s : St} (h : s.ok) (k w : Nat) : (rnd s k w).ok := ⟨add_lt _ _, h.1, h.2.1, h.2.2.1, add_lt _ _, h.2.2.2.2.1, h.2.2.2.2.2.1, h.2.2.2.2.2.2.1⟩
theorem rnds_ok (l : List UInt8) {s : St} (h : s.ok) : ∀ i, (rnds l s i).ok
  | 0 => h
  | i + 1 => rnd_ok (rnds_ok l h i) _ _
theorem plus_ok (s t : St) : (plus s t).ok := ⟨add_lt _ _, add_lt _ _, add_lt _ _, add_lt _ _, add_lt _ _, add_lt _ _, add_lt _ _, add_lt _ _⟩
theorem comp_ok (s : St) (l : List UInt8) : (comp s l).ok := plus_ok _ _
theorem h0_ok : h0.ok := by unfold St.ok h0; decide
theorem mids_ok {s : St} (h : s.ok) (l : List UInt8) : ∀ k, (mids s l k).ok
  | 0 => h
  | k + 1 => comp_ok _ _
theorem kN_lt (i : Nat) : kN i < 4294967296 := by
  unfold kN
  rw [List.getD_eq_getElem?_getD]
  rcases h : kL[i]? with _ | v
  · simp
  · have h2 : ∀ x ∈ kL, x < 4294967296 := by decide
    exact h2 v (List.mem_of_getElem? h)
end Go.Proofs.YtjkbbndiickcnaaDoor
