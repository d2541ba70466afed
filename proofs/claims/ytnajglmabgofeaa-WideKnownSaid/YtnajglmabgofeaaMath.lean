/- The plain arithmetic of hashes of 64 bytes: words, rounds, blocks, what fills up. No condition. -/
import Derived.KernelRfl
namespace Go.Proofs.Ytnajglmabgofeaa

/-- A number that is first worked out, then used. -/
def force {α : Type} (x : Nat) (f : Nat → α) : α := match x with
  | 0 => f 0
  | n + 1 => f (n + 1)
theorem force_eq {α : Type} (x : Nat) (f : Nat → α) : force x f = f x := by unfold force; cases x <;> rfl

def add (a b : Nat) : Nat := (a + b) % 18446744073709551616
def rorN (x n : Nat) : Nat := x / 2 ^ n ||| x * 2 ^ (64 - n) % 18446744073709551616
def nearN (x : Nat) : Nat := rorN x 1 ^^^ rorN x 8 ^^^ x / 128
def farN (x : Nat) : Nat := rorN x 19 ^^^ rorN x 61 ^^^ x / 64

/-- Eight bytes at a place, the highest first. -/
def be (l : List UInt8) (i : Nat) : Nat := (l.getD (8 * i) 0).toNat * 72057594037927936 + (l.getD (8 * i + 1) 0).toNat * 281474976710656 + (l.getD (8 * i + 2) 0).toNat * 1099511627776 + (l.getD (8 * i + 3) 0).toNat * 4294967296 + (l.getD (8 * i + 4) 0).toNat * 16777216 + (l.getD (8 * i + 5) 0).toNat * 65536 + (l.getD (8 * i + 6) 0).toNat * 256 + (l.getD (8 * i + 7) 0).toNat
def nx (q : List Nat) : Nat := add (add (add (q.getD 15 0) (nearN (q.getD 14 0))) (q.getD 6 0)) (farN (q.getD 1 0))
def wrev (l : List UInt8) : Nat → List Nat
  | 0 => [be l 15, be l 14, be l 13, be l 12, be l 11, be l 10, be l 9, be l 8, be l 7, be l 6, be l 5, be l 4, be l 3, be l 2, be l 1, be l 0]
  | k + 1 => nx (wrev l k) :: wrev l k
/-- The i-th number that a block is made into. -/
def W (l : List UInt8) (i : Nat) : Nat := (wrev l (i - 15)).getD (15 - i) 0

structure St where
  a : Nat
  b : Nat
  c : Nat
  d : Nat
  e : Nat
  f : Nat
  g : Nat
  h : Nat
def uN (s : St) (k w : Nat) : Nat := add (add (add (add s.h (rorN s.e 14 ^^^ rorN s.e 18 ^^^ rorN s.e 41)) ((s.e &&& s.f) ^^^ ((18446744073709551615 ^^^ s.e) &&& s.g))) k) w
def vN (s : St) : Nat := add (rorN s.a 28 ^^^ rorN s.a 34 ^^^ rorN s.a 39) ((s.a &&& s.b) ^^^ (s.a &&& s.c) ^^^ (s.b &&& s.c))
def rnd (s : St) (k w : Nat) : St := ⟨add (uN s k w) (vN s), s.a, s.b, s.c, add s.d (uN s k w), s.e, s.f, s.g⟩
def kL : List Nat := [4794697086780616226, 8158064640168781261, 13096744586834688815, 16840607885511220156, 4131703408338449720, 6480981068601479193, 10538285296894168987, 12329834152419229976, 15566598209576043074, 1334009975649890238, 2608012711638119052, 6128411473006802146, 8268148722764581231, 9286055187155687089, 11230858885718282805, 13951009754708518548, 16472876342353939154, 17275323862435702243, 1135362057144423861, 2597628984639134821, 3308224258029322869, 5365058923640841347, 6679025012923562964, 8573033837759648693, 10970295158949994411, 12119686244451234320, 12683024718118986047, 13788192230050041572, 14330467153632333762, 15395433587784984357, 489312712824947311, 1452737877330783856, 2861767655752347644, 3322285676063803686, 5560940570517711597, 5996557281743188959, 7280758554555802590, 8532644243296465576, 9350256976987008742, 10552545826968843579, 11727347734174303076, 12113106623233404929, 14000437183269869457, 14369950271660146224, 15101387698204529176, 15463397548674623760, 17586052441742319658, 1182934255886127544, 1847814050463011016, 2177327727835720531, 2830643537854262169, 3796741975233480872, 4115178125766777443, 5681478168544905931, 6601373596472566643, 7507060721942968483, 8399075790359081724, 8693463985226723168, 9568029438360202098, 10144078919501101548, 10430055236837252648, 11840083180663258601, 13761210420658862357, 14299343276471374635, 14566680578165727644, 15097957966210449927, 16922976911328602910, 17689382322260857208, 500013540394364858, 748580250866718886, 1242879168328830382, 1977374033974150939, 2944078676154940804, 3659926193048069267, 4368137639120453308, 4836135668995329356, 5532061633213252278, 6448918945643986474, 6902733635092675308, 7801388544844847127]
def kN (i : Nat) : Nat := kL.getD i 0
def rnds (l : List UInt8) (s : St) : Nat → St
  | 0 => s
  | i + 1 => rnd (rnds l s i) (kN i) (W l i)
def plus (s t : St) : St := ⟨add s.a t.a, add s.b t.b, add s.c t.c, add s.d t.d, add s.e t.e, add s.f t.f, add s.g t.g, add s.h t.h⟩
/-- The numbers behind one block more. -/
def comp (s : St) (l : List UInt8) : St := plus s (rnds l s 80)
def h0 : St := ⟨7640891576956012808, 13503953896175478587, 4354685564936845355, 11912009170470909681, 5840696475078001361, 11170449401992604703, 2270897969802886507, 6620516959819538809⟩
def chunk (l : List UInt8) (i : Nat) : List UInt8 := (l.drop (128 * i)).take 128
def mids (s : St) (l : List UInt8) : Nat → St
  | 0 => s
  | k + 1 => comp (mids s l k) (chunk l k)
def be8 (n : Nat) : List UInt8 := [UInt8.ofNat (n / 72057594037927936), UInt8.ofNat (n / 281474976710656), UInt8.ofNat (n / 1099511627776), UInt8.ofNat (n / 4294967296), UInt8.ofNat (n / 16777216), UInt8.ofNat (n / 65536), UInt8.ofNat (n / 256), UInt8.ofNat n]
def tell (s : St) : List UInt8 := be8 s.a ++ be8 s.b ++ be8 s.c ++ be8 s.d ++ be8 s.e ++ be8 s.f ++ be8 s.g ++ be8 s.h
/-- How many bytes of nothing come behind the first one. -/
def fill (n : Nat) : Nat := (239 - n % 128) % 128
def tailN (n : Nat) : List UInt8 := 128 :: (List.replicate (fill n) 0 ++ (be8 0 ++ be8 (8 * n)))
def pad (l : List UInt8) : List UInt8 := l ++ tailN l.length
def sha (l : List UInt8) : List UInt8 := tell (mids h0 (pad l) ((pad l).length / 128))

def hexd (n : Nat) : UInt8 := if n < 10 then UInt8.ofNat (48 + n) else UInt8.ofNat (87 + n)
def hex : List UInt8 → List UInt8
  | [] => []
  | c :: l => hexd (c.toNat / 16) :: hexd (c.toNat % 16) :: hex l

theorem add_lt (a b : Nat) : add a b < 18446744073709551616 := Nat.mod_lt _ (by decide)
theorem xor_lt {a b : Nat} (ha : a < 18446744073709551616) (hb : b < 18446744073709551616) : a ^^^ b < 18446744073709551616 := Nat.xor_lt_two_pow (n := 64) ha hb
theorem and_lt {a b : Nat} (ha : a < 18446744073709551616) : a &&& b < 18446744073709551616 := Nat.lt_of_le_of_lt Nat.and_le_left ha
theorem div_lt {a : Nat} (k : Nat) (ha : a < 18446744073709551616) : a / k < 18446744073709551616 := Nat.lt_of_le_of_lt (Nat.div_le_self _ _) ha
theorem rorN_lt {x : Nat} (n : Nat) (hx : x < 18446744073709551616) : rorN x n < 18446744073709551616 :=
  Nat.or_lt_two_pow (n := 64) (div_lt _ hx) (Nat.mod_lt _ (by decide))
theorem nearN_lt {x : Nat} (hx : x < 18446744073709551616) : nearN x < 18446744073709551616 := xor_lt (xor_lt (rorN_lt _ hx) (rorN_lt _ hx)) (div_lt _ hx)
theorem farN_lt {x : Nat} (hx : x < 18446744073709551616) : farN x < 18446744073709551616 := xor_lt (xor_lt (rorN_lt _ hx) (rorN_lt _ hx)) (div_lt _ hx)
theorem be_lt (l : List UInt8) (i : Nat) : be l i < 18446744073709551616 := by
  have h0 := (l.getD (8 * i) 0).toNat_lt
  have h1 := (l.getD (8 * i + 1) 0).toNat_lt
  have h2 := (l.getD (8 * i + 2) 0).toNat_lt
  have h3 := (l.getD (8 * i + 3) 0).toNat_lt
  have h4 := (l.getD (8 * i + 4) 0).toNat_lt
  have h5 := (l.getD (8 * i + 5) 0).toNat_lt
  have h6 := (l.getD (8 * i + 6) 0).toNat_lt
  have h7 := (l.getD (8 * i + 7) 0).toNat_lt
  unfold be
  omega
theorem nx_lt (q : List Nat) : nx q < 18446744073709551616 := add_lt _ _
theorem wrev_lt (l : List UInt8) : ∀ (k : Nat), ∀ x ∈ wrev l k, x < 18446744073709551616
  | 0 => by
    intro x hx
    unfold wrev at hx
    simp only [List.mem_cons, List.not_mem_nil, or_false] at hx
    rcases hx with rfl | rfl | rfl | rfl | rfl | rfl | rfl | rfl | rfl | rfl | rfl | rfl | rfl | rfl | rfl | rfl <;> exact be_lt _ _
  | k + 1 => by
    intro x hx
    unfold wrev at hx
    rcases List.mem_cons.1 hx with rfl | h
    · exact nx_lt _
    · exact wrev_lt l k x h
theorem wrev_length (l : List UInt8) : ∀ k, (wrev l k).length = 16 + k
  | 0 => rfl
  | k + 1 => by show ((wrev l k).length + 1) = _; rw [wrev_length l k]; omega
theorem W_lt (l : List UInt8) (i : Nat) : W l i < 18446744073709551616 := by
  unfold W
  rw [List.getD_eq_getElem?_getD]
  rcases h : (wrev l (i - 15))[15 - i]? with _ | v
  · simp
  · exact wrev_lt l _ _ (List.mem_of_getElem? h)
theorem wrev_get (l : List UInt8) : ∀ (k j : Nat), j < 16 + k → (wrev l k).getD j 0 = W l (15 + k - j)
  | 0, j, hj => by
    unfold W
    rw [show 15 + 0 - j - 15 = 0 by omega, show 15 - (15 + 0 - j) = j by omega]
  | k + 1, 0, _ => by
    unfold W
    rw [show 15 + (k + 1) - 0 - 15 = k + 1 by omega, show 15 - (15 + (k + 1) - 0) = 0 by omega]
  | k + 1, j + 1, hj => by
    have ih := wrev_get l k j (by omega)
    rw [show 15 + (k + 1) - (j + 1) = 15 + k - j by omega, ← ih]
    rfl
theorem W_low (l : List UInt8) (i : Nat) (hi : i < 16) : W l i = be l i := by
  rcases (show i = 0 ∨ i = 1 ∨ i = 2 ∨ i = 3 ∨ i = 4 ∨ i = 5 ∨ i = 6 ∨ i = 7 ∨ i = 8 ∨ i = 9 ∨ i = 10 ∨ i = 11 ∨ i = 12 ∨ i = 13 ∨ i = 14 ∨ i = 15 by omega) with rfl | rfl | rfl | rfl | rfl | rfl | rfl | rfl | rfl | rfl | rfl | rfl | rfl | rfl | rfl | rfl <;> rfl
theorem W_high (l : List UInt8) (i : Nat) (hi : 16 ≤ i) : W l i = add (add (add (W l (i - 16)) (nearN (W l (i - 15)))) (W l (i - 7))) (farN (W l (i - 2))) := by
  obtain ⟨k, rfl⟩ : ∃ k, i = 16 + k := ⟨i - 16, by omega⟩
  have h0 : W l (16 + k) = nx (wrev l k) := by
    unfold W
    rw [show 16 + k - 15 = k + 1 by omega, show 15 - (16 + k) = 0 by omega]
    rfl
  rw [h0]
  unfold nx
  rw [wrev_get l k 15 (by omega), wrev_get l k 14 (by omega), wrev_get l k 6 (by omega), wrev_get l k 1 (by omega)]
  rw [show 15 + k - 15 = 16 + k - 16 by omega, show 15 + k - 14 = 16 + k - 15 by omega, show 15 + k - 6 = 16 + k - 7 by omega, show 15 + k - 1 = 16 + k - 2 by omega]

def St.ok (s : St) : Prop := s.a < 18446744073709551616 ∧ s.b < 18446744073709551616 ∧ s.c < 18446744073709551616 ∧ s.d < 18446744073709551616 ∧ s.e < 18446744073709551616 ∧ s.f < 18446744073709551616 ∧ s.g < 18446744073709551616 ∧ s.h < 18446744073709551616
theorem rnd_ok {s : St} (h : s.ok) (k w : Nat) : (rnd s k w).ok := ⟨add_lt _ _, h.1, h.2.1, h.2.2.1, add_lt _ _, h.2.2.2.2.1, h.2.2.2.2.2.1, h.2.2.2.2.2.2.1⟩
theorem rnds_ok (l : List UInt8) {s : St} (h : s.ok) : ∀ i, (rnds l s i).ok
  | 0 => h
  | i + 1 => rnd_ok (rnds_ok l h i) _ _
theorem plus_ok (s t : St) : (plus s t).ok := ⟨add_lt _ _, add_lt _ _, add_lt _ _, add_lt _ _, add_lt _ _, add_lt _ _, add_lt _ _, add_lt _ _⟩
theorem comp_ok (s : St) (l : List UInt8) : (comp s l).ok := plus_ok _ _
theorem h0_ok : h0.ok := by unfold St.ok h0; decide
theorem mids_ok {s : St} (h : s.ok) (l : List UInt8) : ∀ k, (mids s l k).ok
  | 0 => h
  | k + 1 => comp_ok _ _
theorem kN_lt (i : Nat) : kN i < 18446744073709551616 := by
  unfold kN
  rw [List.getD_eq_getElem?_getD]
  rcases h : kL[i]? with _ | v
  · simp
  · have h2 : ∀ x ∈ kL, x < 18446744073709551616 := by decide
    exact h2 v (List.mem_of_getElem? h)
end Go.Proofs.Ytnajglmabgofeaa
