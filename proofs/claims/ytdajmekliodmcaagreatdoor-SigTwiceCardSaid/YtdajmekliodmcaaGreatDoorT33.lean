/- Several texts, one behind the other; each says by itself what it proves, and on what conditions. -/
import Derived.Test.YtdajmekliodmcaaGreatDoorT32
import Derived.Deep.RegionLaw
import Derived.BigRegion
import Derived.Shelf.Abstract
import Derived.Lib.TrimByte
import Derived.RangeFuncBox
import Derived.RangeFuncFrom
/- What goes through bits, the lowest first, in plain numbers: the digits of one number to one base and to another. -/
namespace Go.Proofs.YtdajmekliodmcaaGreatDoor
set_option linter.unusedVariables false
set_option linter.unusedSimpArgs false

/-- The number that digits of t bits are, the lowest first. -/
def dv (t : Nat) : List Nat → Nat
  | [] => 0
  | d :: l => d + 2 ^ t * dv t l
theorem dv_append (t : Nat) : ∀ l m : List Nat, dv t (l ++ m) = dv t l + 2 ^ (t * l.length) * dv t m
  | [], m => by simp [dv]
  | d :: l, m => by
    show d + 2 ^ t * dv t (l ++ m) = d + 2 ^ t * dv t l + 2 ^ (t * (l.length + 1)) * dv t m
    have e : 2 ^ (t * (l.length + 1)) * dv t m = 2 ^ t * (2 ^ (t * l.length) * dv t m) := by rw [Nat.mul_succ, Nat.pow_add, Nat.mul_comm (2 ^ (t * l.length)), Nat.mul_assoc]
    rw [dv_append t l m, Nat.mul_add, e]
    omega
theorem dv_snoc (t : Nat) (l : List Nat) (x : Nat) : dv t (l ++ [x]) = dv t l + 2 ^ (t * l.length) * x := by
  rw [dv_append]; simp [dv]
/-- The digits that loEmit tells, and what is left. -/
theorem dv_emit (t h : Nat) : ∀ k, dv t ((List.range k).map fun i => h / 2 ^ (t * i) % 2 ^ t) + 2 ^ (t * k) * (h / 2 ^ (t * k)) = h
  | 0 => by simp [dv]
  | k + 1 => by
    have ih := dv_emit t h k
    rw [List.range_succ, List.map_append, List.map_singleton, dv_snoc]
    rw [List.length_map, List.length_range, Nat.mul_succ t k, Nat.pow_add]
    have h2 : h / (2 ^ (t * k) * 2 ^ t) = h / 2 ^ (t * k) / 2 ^ t := (Nat.div_div_eq_div_mul _ _ _).symm
    rw [h2]
    have h3 := Nat.mod_add_div (h / 2 ^ (t * k)) (2 ^ t)
    rw [Nat.mul_assoc, Nat.add_assoc, ← Nat.mul_add, h3]
    exact ih
structure LoInv (f t : Nat) (l : List Nat) (s : Nat × Nat × List Nat) : Prop where
  h : s.1 < 2 ^ s.2.1
  n : s.2.1 < t
  len : t * s.2.2.length + s.2.1 = f * l.length
  val : dv t s.2.2 + 2 ^ (t * s.2.2.length) * s.1 = dv f l
  lt : ∀ x ∈ s.2.2, x < 2 ^ t
theorem or_shift (h n x : Nat) (hh : h < 2 ^ n) (hn : x * 2 ^ n < 18446744073709551616) : h ||| x * 2 ^ n % 18446744073709551616 = h + 2 ^ n * x := by
  rw [Nat.mod_eq_of_lt hn, Nat.or_comm, Nat.mul_comm x, ← Nat.two_pow_add_eq_or_of_lt hh]
  omega
theorem LoInv.step {f t : Nat} {l : List Nat} {s : Nat × Nat × List Nat} (hs : LoInv f t l s) (x : Nat) (hx : x < 2 ^ f) (ht8 : t ≤ 8) (hf8 : f ≤ 8) : LoInv f t (l ++ [x]) (loStep f t s x) := by
  obtain ⟨h, n, out⟩ := s
  obtain ⟨h1, h2, h3, h4, h5⟩ := hs
  simp only at h1 h2 h3 h4 h5
  have hb : x * 2 ^ n < 18446744073709551616 := by
    have e1 : x * 2 ^ n < 2 ^ f * 2 ^ n := Nat.mul_lt_mul_of_pos_right hx (Nat.two_pow_pos n)
    rw [← Nat.pow_add] at e1
    exact Nat.lt_of_lt_of_le e1 (Nat.pow_le_pow_right (by decide) (by omega : f + n ≤ 64))
  have hor := or_shift h n x h1 hb
  obtain ⟨q, hq⟩ : ∃ q, q = h + 2 ^ n * x := ⟨_, rfl⟩
  have hql : q < 2 ^ (n + f) := by
    rw [hq, Nat.pow_add]
    have e1 : 2 ^ n * (x + 1) ≤ 2 ^ n * 2 ^ f := Nat.mul_le_mul_left _ hx
    rw [Nat.mul_succ] at e1
    omega
  have hm := Nat.div_add_mod (n + f) t
  have ht : 0 < t := by omega
  unfold loStep
  simp only [hor, ← hq]
  refine ⟨?_, Nat.mod_lt _ ht, ?_, ?_, ?_⟩
  · show q / 2 ^ (t * ((n + f) / t)) < 2 ^ ((n + f) % t)
    apply Nat.div_lt_of_lt_mul
    rw [← Nat.pow_add, hm]
    exact hql
  · show t * (out ++ loEmit t q (n + f)).length + (n + f) % t = f * (l ++ [x]).length
    rw [List.length_append, loEmit_length, List.length_append, List.length_singleton, Nat.mul_add, Nat.mul_add, Nat.mul_one]
    omega
  · show dv t (out ++ loEmit t q (n + f)) + 2 ^ (t * (out ++ loEmit t q (n + f)).length) * (q / 2 ^ (t * ((n + f) / t))) = dv f (l ++ [x])
    rw [dv_append, dv_snoc, List.length_append, loEmit_length, Nat.mul_add, Nat.pow_add, Nat.mul_assoc, Nat.add_assoc, ← Nat.mul_add]
    have e := dv_emit t q ((n + f) / t)
    unfold loEmit
    rw [e, hq, Nat.mul_add, ← Nat.add_assoc, h4, ← Nat.mul_assoc, ← Nat.pow_add, h3]
  · intro y hy
    rcases List.mem_append.1 hy with h | h
    · exact h5 y h
    · obtain ⟨i, -, rfl⟩ := List.mem_map.1 h
      exact Nat.mod_lt _ (Nat.two_pow_pos t)
end Go.Proofs.YtdajmekliodmcaaGreatDoor
/- Package codec's Hex: it tells the arithmetic's letters. Its condition: a length that fits. -/
namespace Go.Proofs.YtdajmekliodmcaaGreatDoor
set_option linter.unusedSimpArgs false
open Go.RowKit Go.Shelf
set_option linter.unusedVariables false

theorem natsOf_nb (s : ByteArray) : natsOf s = nb s.data.toList := rfl
theorem only_any (s : ByteArray) (so : Bool) (w : World) :
    Calls Tryz.prog 107 #[.string s, .bool so] w fun e w2 => e = .returned (.tuple #[.string (if so then s else ⟨#[]⟩), .bool so]) ∧ w2 = w := by
  cases so
  · go_enter Tryz.func107, Tryz.ntmps107
    go_wp2
    go_ret2
    exact ⟨rfl, rfl⟩
  · go_enter Tryz.func107, Tryz.ntmps107
    go_wp2
    go_ret2
    exact ⟨rfl, rfl⟩

theorem map_ofNat_nb : ∀ l : List UInt8, (nb l).map UInt8.ofNat = l
  | [] => rfl
  | c :: l => by
    show UInt8.ofNat c.toNat :: (nb l).map UInt8.ofNat = c :: l
    rw [map_ofNat_nb l]; simp
theorem toList_data (s : ByteArray) : s.toList = s.data.toList := ByteArray.toList_eq s
/-- What two results are, where an option is told. -/
def told (o : Option (List UInt8)) : Value := match o with
  | some l => .tuple #[.string ⟨l.toArray⟩, .bool true]
  | none => .tuple #[.string ⟨#[]⟩, .bool false]
end Go.Proofs.YtdajmekliodmcaaGreatDoor
/- Package codec's Base32 and GetBase32: they tell the arithmetic's letters, and bytes. Their condition: a length that fits. -/
namespace Go.Proofs.YtdajmekliodmcaaGreatDoor
set_option linter.unusedSimpArgs false
open Go.RowKit Go.Shelf
set_option linter.unusedVariables false

end Go.Proofs.YtdajmekliodmcaaGreatDoor
/- Package codec's GetBase32: it tells the arithmetic's bytes, or that there are none. Its condition: a length that fits. -/
namespace Go.Proofs.YtdajmekliodmcaaGreatDoor
set_option linter.unusedSimpArgs false
open Go.RowKit Go.Shelf
set_option linter.unusedVariables false

end Go.Proofs.YtdajmekliodmcaaGreatDoor
/- Package codec's Base64: it tells the arithmetic's letters. Its condition: a length that fits. -/
namespace Go.Proofs.YtdajmekliodmcaaGreatDoor
set_option linter.unusedSimpArgs false
open Go.RowKit Go.Shelf
set_option linter.unusedVariables false

def by64B : ByteArray := ⟨#[65, 66, 67, 68, 69, 70, 71, 72, 73, 74, 75, 76, 77, 78, 79, 80, 81, 82, 83, 84, 85, 86, 87, 88, 89, 90, 97, 98, 99, 100, 101, 102, 103, 104, 105, 106, 107, 108, 109, 110, 111, 112, 113, 114, 115, 116, 117, 118, 119, 120, 121, 122, 48, 49, 50, 51, 52, 53, 54, 55, 56, 57, 43, 47]⟩
theorem by64_set : ∀ y, y < 64 → UInt8.ofNat (setAt by64B y) = six y := by decide +kernel
theorem by64_size : by64B.size = 64 := by decide +kernel
theorem map_six (ds : List Nat) (h : ∀ x ∈ ds, x < 64) : (ds.map (setAt by64B)).map UInt8.ofNat = ds.map six := by
  rw [List.map_map]
  apply List.map_congr_left
  intro x hx
  exact by64_set x (h x hx)
theorem sx_length (l : List UInt8) : (sx l).length ≤ (l.length + 2) / 3 * 4 := by
  induction l using sx.induct with
  | case1 a b c l ih => simp only [sx, List.length_cons]; omega
  | case2 a b => simp [sx]
  | case3 a => simp [sx]
  | case4 => simp [sx]
theorem b64_split (l : List UInt8) : b64 l = (sx l).map six ++ List.replicate ((l.length + 2) / 3 * 4 - (sx l).length) 61 := by
  induction l using sx.induct with
  | case1 a b c l ih =>
    have hl := sx_length l
    simp only [sx, b64, List.map_cons, List.cons_append, List.length_cons]
    rw [ih]
    have e : (l.length + 2) / 3 * 4 - (sx l).length = (l.length + 1 + 1 + 1 + 2) / 3 * 4 - ((sx l).length + 1 + 1 + 1 + 1) := by omega
    rw [e]
  | case2 a b => simp [sx, b64]
  | case3 a => simp [sx, b64]
  | case4 => rfl
theorem rep_one (n : Nat) : Lib.repeatL [61] n = List.replicate n 61 := by
  induction n with
  | zero => rfl
  | succ n ih => rw [List.replicate_succ, ← ih]; rfl

theorem cat_bytes (l : List UInt8) (m : Array UInt8) : ((⟨l.toArray⟩ : ByteArray) ++ ⟨m⟩) = ⟨(l ++ m.toList).toArray⟩ := by
  apply ByteArray.ext
  simp

set_option maxHeartbeats 1000000 in
theorem base64_any (s : ByteArray) (w : World) (hs : s.size ≤ 549755813888) :
    Calls Tryz.prog 60 #[.string s] w fun e w2 => e = .returned (.string ⟨(b64 s.data.toList).toArray⟩) ∧ Below w.heap.size w w2 := by
  obtain ⟨A, hA⟩ : ∃ A, A = s.size + 2 := ⟨_, rfl⟩
  obtain ⟨C, hC⟩ : ∃ C, C = A / 3 := ⟨_, rfl⟩
  obtain ⟨N, hN⟩ : ∃ N, N = C * 4 := ⟨_, rfl⟩
  have h8 : IntKind.i64.wrap ((s.size : Int) + 2) = (A : Int) := by rw [IntKind.wrap_i64]; omega
  have h4 : (A : Int) / 3 = (C : Int) := by omega
  have h5 : IntKind.i64.wrap ((C : Int) * 4) = (N : Int) := by rw [IntKind.wrap_i64]; omega
  have hNle : N ≤ 1099511627776 := by omega
  have hAb : A ≤ 549755813890 := by omega
  have hCb : C ≤ 549755813890 := by omega
  have hNm : (s.data.toList.length + 2) / 3 * 4 = N := by rw [hN, hC, hA]; simp
  obtain ⟨L, hL⟩ : ∃ L, L = (sx s.data.toList).map six := ⟨_, rfl⟩
  have hsl : (sx s.data.toList).length ≤ N := by rw [← hNm]; exact sx_length _
  have hLl : L.length ≤ N := by rw [hL, List.length_map]; exact hsl
  obtain ⟨D, hD⟩ : ∃ D, D = N - L.length := ⟨_, rfl⟩
  have hsub : IntKind.i64.wrap ((N : Int) - (L.length : Int)) = (D : Int) := by rw [IntKind.wrap_i64]; omega
  have hres : (((hiAll 8 6 (natsOf s)).map (setAt by64B)).take N).map UInt8.ofNat = L := by
    rw [natsOf_nb, all86, List.take_of_length_le (by rw [List.length_map]; exact hsl), map_six _ (sx_lt _), hL]
  have h64 : ∀ y ∈ hiAll 8 6 (natsOf s), y < by64B.size := by rw [natsOf_nb, by64_size, all86]; exact sx_lt _
  have hb : b64 s.data.toList = L ++ List.replicate D 61 := by rw [b64_split, hNm, ← hL, hD, hL, List.length_map]
  have hrep : ∀ w, Calls Tryz.prog 110 #[.string ⟨#[61]⟩, .int .i64 (D : Int)] w fun e w' => e = .returned (.string ⟨(List.replicate D 61).toArray⟩) ∧ Below w.heap.size w w' := fun w => by
    have := strings_Repeat ⟨#[61]⟩ D w (by omega) (by show 1 * D ≤ _; omega)
    rwa [show (⟨#[61]⟩ : ByteArray).data.toList = [61] from rfl, rep_one] at this
  have hLD : ¬ 9223372036854775807 < L.length + D := by omega
  have HR := Lib.hid hres
  have H64 := Lib.hid h64
  have HB := Lib.hid hb
  clear hA hC hN hNm hres h64 hL hb hD hsl hLl
  go_enter Tryz.func60, Tryz.ntmps60
  go_wp2_with (first
    | (go_at_call 106; refine (forward_mk s w (by omega)).mono ?_; rintro e w1 ⟨⟨v1, rfl, h1⟩, b1⟩)
    | (go_at_call 104; refine (highest_mk 8 6 (by decide) (by decide) (by decide) (by decide) v1 _ w1 h1).mono ?_; rintro e w2 ⟨⟨v2, rfl, h2⟩, b2⟩)
    | (go_at_call 109; refine (letters_mk by64B v2 _ w2 h2 H64.out).mono ?_; rintro e w3 ⟨⟨v3, rfl, h3⟩, b3⟩)
    | (go_at_call 103; refine (first_res N v3 _ w3 h3 hNle _ HR.out).mono ?_; rintro e w4 ⟨rfl, b4⟩)
    | (go_at_call 110; refine (hrep w4).mono ?_; rintro e w5 ⟨rfl, b5⟩))
  go_ret
  refine ⟨?_, below_then (below_then (below_then (below_then b1 b2) b3) b4) b5⟩
  rw [HB.out]
  show Ending.returned (.string ((⟨L.toArray⟩ : ByteArray) ++ ⟨Array.replicate D 61⟩)) = _
  rw [show ((⟨L.toArray⟩ : ByteArray) ++ ⟨Array.replicate D 61⟩) = ⟨(L ++ List.replicate D 61).toArray⟩ by rw [cat_bytes]; simp]
end Go.Proofs.YtdajmekliodmcaaGreatDoor
/- place, Letters, sixty of the document: where a byte stands in a text. No condition but that the text may lie in memory. -/
namespace Go.Proofs.YtdajmekliodmcaaGreatDoor.R
open Go.RowKit
set_option linter.unusedVariables false
set_option linter.unusedSimpArgs false
end Go.Proofs.YtdajmekliodmcaaGreatDoor.R
/- Hex of the document: the letters of bytes. No condition but that there are up to a thousand. -/
namespace Go.Proofs.YtdajmekliodmcaaGreatDoor.R
open Go.RowKit
set_option linter.unusedVariables false
set_option linter.unusedSimpArgs false
end Go.Proofs.YtdajmekliodmcaaGreatDoor.R
/- GetHex of the document: what letters say, if anything. No condition but that there are up to a thousand letters. -/
namespace Go.Proofs.YtdajmekliodmcaaGreatDoor.R
open Go.RowKit Go.Shelf
set_option linter.unusedVariables false
set_option linter.unusedSimpArgs false
/-- Bytes, or none, in memory. -/
def saidV (S : ByteArray) (b : Bool) : Array Value := [Value.string S, Value.bool b].toArray
def said (o : Option (List UInt8)) : Array Value := match o with
  | some l => saidV ⟨l.toArray⟩ true
  | none => saidV ⟨#[]⟩ false
theorem exec_build2 {ρ : Operand → Value} {o : Oper} (w : World) (t : TypeId) (k k2 : Nat) (x x2 : Operand) (ho : o.op = .build t #[(k, x), (k2, x2)]) (u u2 : Value) (hx : ρ x = u) (hx2 : ρ x2 = u2) (v : Value)
    (hrun : (Instr.build t #[(k, u), (k2, u2)]).run Tryz.prog w = .ok v w) : (execOp ρ o).run Tryz.prog w = .ok (.value v) w := by
  subst hx hx2
  unfold execOp
  simp [ho, hrun]
theorem exec_build0g {ρ : Operand → Value} {o : Oper} {t : TypeId} (ho : o.op = .build t #[]) (v : Value) {w : World} (hrun : (Instr.build t #[]).run Tryz.prog w = .ok v w) (w2 : World) (hw : w2 = w := by rfl) : (execOp ρ o).run Tryz.prog w2 = .ok (.value v) w2 := by
  subst hw
  unfold execOp
  simp [ho, hrun]
theorem exec_index_str {ρ : Operand → Value} {o : Oper} (x y : Operand) (ho : o.op = .index 9 x y) (s : ByteArray) (i : Nat) (hi : i < s.size) (hx : ρ x = .string s) (hy : ρ y = .int .i64 (i : Int)) (w : World) : (execOp ρ o).run Tryz.prog w = .ok (.value (.int .u8 (s[i].toNat : Int))) w := by
  unfold execOp
  rw [ho]
  simp only [hx, hy]
  go_simp
theorem exec_slice1 {ρ : Operand → Value} {o : Oper} (x : Operand) (ho : o.op = .buildSlice 33 1 #[(0, x)]) (b : Nat) (hx : ρ x = .int .u8 (b : Int)) (w : World) :
    (execOp ρ o).run Tryz.prog w = .ok (.value (.slice (some ⟨w.heap.size, 0, none⟩) 1 1)) (w.alloc (.cells #[.int .u8 (b : Int)] 5)) := by
  unfold execOp
  simp only [ho]
  have h : ∀ v, v = Value.int .u8 (b : Int) → (Instr.buildSlice 33 1 #[(0, v)]).run Tryz.prog w = .ok (.slice (some ⟨w.heap.size, 0, none⟩) 1 1) (w.alloc (.cells #[.int .u8 (b : Int)] 5)) := by
    rintro v rfl
    kernel_rfl
  simp [h _ hx]
end Go.Proofs.YtdajmekliodmcaaGreatDoor.R
/- Base64 of the document: bytes as letters. No condition but that there are up to a thousand. -/
namespace Go.Proofs.YtdajmekliodmcaaGreatDoor.R
open Go.RowKit Go.Shelf
set_option linter.unusedVariables false
set_option linter.unusedSimpArgs false
/-- Byte j of what is left, nought behind it. -/
def bt (l : List UInt8) (j : Nat) : Nat := (l.getD j 0).toNat
end Go.Proofs.YtdajmekliodmcaaGreatDoor.R
/- Text of package sig and of the document, Seed of the laws. No condition but that a length fits. -/
namespace Go.Proofs.YtdajmekliodmcaaGreatDoor
open Go.RowKit Go.Shelf
set_option linter.unusedVariables false
set_option linter.unusedSimpArgs false
theorem b64_len (l : List UInt8) : (b64 l).length = (l.length + 2) / 3 * 4 := by
  induction l using b64.induct with
  | case1 a b c l ih => simp only [b64, List.length_cons]; omega
  | case2 a b => simp [b64]
  | case3 a => simp [b64]
  | case4 => rfl
theorem textL_len (n g : List UInt8) : (textL n g).length ≤ 153 := by
  by_cases h : mayL n = true ∧ g.length = 64
  · rw [text_may h.1 h.2]
    have := (may_len h.1).2
    have h2 := b64_len g
    simp only [List.length_append, List.length_cons, h2, h.2]
    omega
  · rw [text_none h]; simp
set_option maxRecDepth 100000 in
set_option maxHeartbeats 1000000 in
theorem text_any (n g : ByteArray) (hg : g.size ≤ 549755813888) (w : World) : Calls Tryz.prog 27 #[.string n, .string g] w fun e w' => e = .returned (.string ⟨(textL n.data.toList g.data.toList).toArray⟩) ∧ Below w.heap.size w w' := by
  obtain ⟨t, ht⟩ : ∃ t : ByteArray, Hid (t = ⟨(textL n.data.toList g.data.toList).toArray⟩) := ⟨_, Lib.hid rfl⟩
  rw [← ht.out]
  have hsl : g.data.toList.length = g.size := rfl
  have HM := Lib.hid (may_any n)
  obtain ⟨b, hb⟩ : ∃ b, Hid (b = mayL n.data.toList) := ⟨_, Lib.hid rfl⟩
  rw [← hb.out] at HM
  cases b with
  | false =>
    have hfin : Hid (t = ⟨#[]⟩) := by
      unfold Hid
      rw [ht.out, text_none (fun h => by rw [← hb.out] at h; cases h.1)]
    go_enter Tryz.func27, Tryz.ntmps27
    go_wp2_with (go_at_call 25; refine (HM.out _).mono ?_; rintro e w1 ⟨rfl, rfl⟩)
    go_ret
    exact ⟨by rw [hfin.out]; rfl, Below.refl _ _⟩
  | true =>
    by_cases h64 : g.size = 64
    · have hI : (g.size : Int) = 64 := by omega
      obtain ⟨u, hu⟩ : ∃ u : ByteArray, Hid (u = ⟨(b64 g.data.toList).toArray⟩) := ⟨_, Lib.hid rfl⟩
      have hul : u.size ≤ 88 := by
        rw [hu.out]
        show (b64 g.data.toList).length ≤ 88
        rw [b64_len, hsl, h64]
        decide
      have hnl := (may_len hb.out.symm).2
      have hns : n.size ≤ 64 := hnl
      have HB := Lib.hid (fun w => base64_any g w hg)
      rw [← hu.out] at HB
      have hfin : Hid ((n ++ ⟨#[58]⟩) ++ u = t) := by
        unfold Hid
        rw [ht.out, text_may hb.out.symm h64, hu.out]
        apply ByteArray.ext
        apply Array.toList_inj.1
        simp
      clear ht hu hnl
      go_enter Tryz.func27, Tryz.ntmps27
      go_wp2_with (first
        | (go_at_call 25; refine (HM.out _).mono ?_; rintro e w1 ⟨rfl, rfl⟩)
        | (go_at_call 60; refine (HB.out _).mono ?_; rintro e w1 ⟨rfl, hb1⟩))
      go_ret
      exact ⟨by rw [hfin.out]; rfl, hb1⟩
    · have hI : ¬ (g.size : Int) = 64 := by omega
      have hfin : Hid (t = ⟨#[]⟩) := by
        unfold Hid
        rw [ht.out, text_none (fun h => h64 h.2)]
      go_enter Tryz.func27, Tryz.ntmps27
      go_wp2_with (go_at_call 25; refine (HM.out _).mono ?_; rintro e w1 ⟨rfl, rfl⟩)
      go_ret
      exact ⟨by rw [hfin.out]; rfl, Below.refl _ _⟩
end Go.Proofs.YtdajmekliodmcaaGreatDoor
/- Seed of the laws: 32 bytes of a text. No condition but that the length fits. -/
namespace Go.Proofs.YtdajmekliodmcaaGreatDoor
open Go.RowKit Go.Shelf
set_option linter.unusedVariables false
set_option linter.unusedSimpArgs false
/-- The first 32 bytes of a text, filled up with noughts. -/
def seedAt (s : List UInt8) (k : Nat) : List UInt8 := s.take k ++ List.replicate (32 - k) 0
def seedL (s : List UInt8) : List UInt8 := seedAt s (min 32 s.length)
theorem seedAt_len (s : List UInt8) (k : Nat) (hk : k ≤ 32) (hs : k ≤ s.length) : (seedAt s k).length = 32 := by simp [seedAt]; omega
theorem seedL_len (s : List UInt8) : (seedL s).length = 32 := seedAt_len s _ (by omega) (by omega)
/-- A row of bytes as cells. -/
def bRow (l : List UInt8) : Array Value := (l.map fun b => Value.int .u8 (b.toNat : Int)).toArray
theorem bRow_get (l : List UInt8) (j : Nat) (hj : j < l.length) : (bRow l)[j]? = some (.int .u8 (l[j].toNat : Int)) := by simp [bRow, hj]
def Row8 (W : World) (g : Nat) (l : List UInt8) : Prop := W.heap[g]? = some (.cells (bRow l) 5 (0, 0))
theorem Row8.cell {W : World} {g : Nat} {l : List UInt8} (h : Row8 W g l) (j : Nat) (hj : j < l.length) : W.cell? ⟨g, j, none⟩ = some (.int .u8 (l[j].toNat : Int)) := by
  rw [cell_of_row W g j _ 5 _ h]
  exact bRow_get l j hj
theorem Row8.free {W : World} {g : Nat} {l : List UInt8} (h : Row8 W g l) (j : Nat) : W.frozen? ⟨g, j, none⟩ = false := by
  have h2 : W.heap[g]? = some (.cells (bRow l) 5 (0, 0)) := h
  unfold World.frozen?
  simp [h2]
theorem Row8.lt {W : World} {g : Nat} {l : List UInt8} (h : Row8 W g l) : g < W.heap.size := (Array.getElem?_eq_some_iff.1 h).1
theorem Row8.str {W : World} {g cap n : Nat} {l : List UInt8} (h : Row8 W g l) (hn : l.length = n) : (Go.convert 33 9 (.slice (some ⟨g, 0, none⟩) n cap)).run Tryz.prog W = .ok (.string ⟨l.toArray⟩) W := by
  rw [← hn]
  refine run_convert_bytes_back (P := Tryz.prog) W 33 9 5 ⟨g, 0, none⟩ cap l Tryz.underlying33 Tryz.underlying5 Tryz.underlying9 (fun j hj => ?_)
  rw [show (⟨g, 0, none⟩ : Addr).add j = ⟨g, j, none⟩ by unfold Addr.add; split <;> simp_all, h.cell j hj]
theorem Row8.set {W : World} {g : Nat} {l : List UInt8} (h : Row8 W g l) (j : Nat) (c : UInt8) : Row8 (W.setCell ⟨g, j, none⟩ (.int .u8 (c.toNat : Int))) g (l.set j c) := by
  unfold Row8
  rw [setCell_eq_setRow W g j _ 5 (0, 0) _ h, setRow_heap W g _ _ 5 (0, 0) h]
  simp [bRow, List.map_set]
theorem Row8.same {W W' : World} {g : Nat} {l : List UInt8} (h : Row8 W g l) (hb : Below W.heap.size W W') : Row8 W' g l := (hb.block g h.lt).trans h
theorem make32 : ∀ w : World, (Instr.makeSlice 33 (.int .i64 32) (.int .i64 32)).run Tryz.prog w = .ok (.slice (some ⟨w.heap.size, 0, none⟩) 32 32) (w.alloc (.cells (bRow (List.replicate 32 0)) 5)) := fun w => by kernel_rfl
theorem seedAt_step (s : List UInt8) (k : Nat) (hk : k < 32) (hs : k < s.length) : (seedAt s k).set k s[k] = seedAt s (k + 1) := by
  have h1 : (s.take k).length = k := by simp; omega
  unfold seedAt
  rw [List.set_append_right _ _ (by omega), h1, Nat.sub_self, show 32 - k = (32 - (k + 1)) + 1 by omega, List.replicate_succ, List.set_cons_zero]
  have h3 : s.take (k + 1) = s.take k ++ [s[k]] := by rw [List.take_add_one, List.getElem?_eq_getElem hs]; rfl
  rw [h3, List.append_assoc]
  rfl
end Go.Proofs.YtdajmekliodmcaaGreatDoor
/- Package codec's GetBase64: it tells the bytes whose letters they are, or that there are none. Its condition: a length that fits. -/
namespace Go.Proofs.YtdajmekliodmcaaGreatDoor
set_option linter.unusedSimpArgs false
open Go.RowKit Go.Shelf
set_option linter.unusedVariables false

theorem six_ne : ∀ d, d < 64 → six d ≠ 61 := by decide +kernel
theorem numAt64 : ∀ d, d < 64 → numAt by64B (six d).toNat = d := by decide +kernel
theorem by64_all : ∀ c, (Lib.indexByte by64B.data.toList c).toNat < 256 := by
  have h : ∀ n, n < 256 → (Lib.indexByte by64B.data.toList (UInt8.ofNat n)).toNat < 256 := by decide +kernel
  intro c
  have := h c.toNat c.toNat_lt
  simpa using this
theorem trim_split (ds : List Nat) (h : ∀ x ∈ ds, x < 64) (m : Nat) : Lib.trimRightB (ds.map six ++ List.replicate m 61) 61 = ds.map six := by
  rw [Lib.trimRightB_take _ _ ds.length (by simp) ?_ ?_, List.take_left' (by simp)]
  · intro j b hj hb
    rw [List.getElem?_append_right (by simpa using hj)] at hb
    exact List.eq_of_mem_replicate (List.mem_of_getElem? hb)
  · intro b hk hb
    rw [List.getElem?_append_left (by simp; omega)] at hb
    obtain ⟨d, hd, rfl⟩ := List.mem_map.1 (List.mem_of_getElem? hb)
    exact six_ne d (h d hd)
theorem nums64 : ∀ ds : List Nat, (∀ x ∈ ds, x < 64) → (nb (ds.map six)).map (numAt by64B) = ds
  | [], _ => rfl
  | d :: ds, h => by
    show numAt by64B (six d).toNat :: (nb (ds.map six)).map (numAt by64B) = d :: ds
    rw [numAt64 d (h d (by simp)), nums64 ds (fun x hx => h x (by simp [hx]))]
/-- What is read of letters, whether or not they say anything. -/
def rd64 (s : List UInt8) : List UInt8 := ((hiAll 6 8 ((nb (Lib.trimRightB s 61)).map (numAt by64B))).take (6 * (Lib.trimRightB s 61).length / 8)).map UInt8.ofNat
theorem rd64_b64 (b : List UInt8) : rd64 (b64 b) = b := by
  unfold rd64
  rw [b64_split, trim_split _ (sx_lt b), nums64 _ (sx_lt b), List.length_map, (all68 b).2, (all68 b).1, map_ofNat_nb]
theorem trim_le (s : List UInt8) (c : UInt8) : (Lib.trimRightB s c).length ≤ s.length := by
  unfold Lib.trimRightB
  rw [List.length_reverse]
  have := (List.dropWhile_sublist (p := (· == c)) (l := s.reverse)).length_le
  simpa using this
theorem rd64_length (s : List UInt8) : (rd64 s).length ≤ s.length := by
  have := trim_le s 61
  unfold rd64
  rw [List.length_map, List.length_take]
  omega

set_option maxHeartbeats 1000000 in
theorem getBase64_any (s : ByteArray) (w : World) (hs : s.size ≤ 549755813888) :
    Calls Tryz.prog 56 #[.string s] w fun e w2 => e = .returned (told (get64 s.data.toList)) ∧ Below w.heap.size w w2 := by
  obtain ⟨L, hL⟩ : ∃ L, L = Lib.trimRightB s.data.toList 61 := ⟨_, rfl⟩
  have hlen : s.data.toList.length = s.size := by simp
  have hLl : L.length ≤ s.size := by rw [hL, ← hlen]; exact trim_le _ _
  obtain ⟨T, hT⟩ : ∃ T, T = L.length := ⟨_, rfl⟩
  obtain ⟨M, hM⟩ : ∃ M, M = 6 * T := ⟨_, rfl⟩
  obtain ⟨N, hN⟩ : ∃ N, N = M / 8 := ⟨_, rfl⟩
  have hmul : IntKind.i64.wrap (6 * (L.length : Int)) = (M : Int) := by rw [IntKind.wrap_i64]; omega
  have hquo : (M : Int) / 8 = (N : Int) := by omega
  have hNle : N ≤ 1099511627776 := by omega
  obtain ⟨X, hX⟩ : ∃ X, X = rd64 s.data.toList := ⟨_, rfl⟩
  have hres : ((hiAll 6 8 ((natsOf ⟨L.toArray⟩).map (numAt by64B))).take N).map UInt8.ofNat = X := by rw [hX, rd64, ← hL, ← hT, ← hM, ← hN, natsOf_nb]
  have hXl : X.length ≤ s.size := by rw [hX, ← hlen]; exact rd64_length _
  have hget : get64 s.data.toList = if b64 X = s.data.toList then some X else none := get64_of s.data.toList X (fun b hb => by rw [hX, ← hb, rd64_b64])
  have htr : ∀ w, Calls Tryz.prog 102 #[.string s, .string ⟨#[61]⟩] w fun e w' => e = .returned (.string ⟨L.toArray⟩) ∧ w' = w := fun w => by
    rw [hL]; exact strings_TrimRight_one s 61 (by decide) w (by omega)
  have hLs : (⟨L.toArray⟩ : ByteArray).size ≤ 549755813888 := by show L.toArray.size ≤ _; simp; omega
  have HR := Lib.hid hres
  have HG := Lib.hid hget
  have HX := base64_any ⟨X.toArray⟩
  clear hN hM hT hres hX hget hL
  by_cases hc : b64 X = s.data.toList
  · have hso : (b64 X == s.toList) = true := by rw [toList_data, hc]; simp
    have hT := only_any ⟨X.toArray⟩ true
    have HF : Hid (get64 s.data.toList = some X) := by unfold Hid; rw [HG.out, if_pos hc]
    clear hc
    go_enter Tryz.func56, Tryz.ntmps56
    go_wp2_with (first
      | (go_at_call 102; refine (htr w).mono ?_; rintro e w0 ⟨rfl, rfl⟩)
      | (go_at_call 106; refine (forward_mk ⟨L.toArray⟩ _ (by omega)).mono ?_; rintro e w1 ⟨⟨v1, rfl, h1⟩, b1⟩)
      | (go_at_call 105; refine (numbers_mk by64B v1 _ w1 h1 by64_all).mono ?_; rintro e w2 ⟨⟨v2, rfl, h2⟩, b2⟩)
      | (go_at_call 104; refine (highest_mk 6 8 (by decide) (by decide) (by decide) (by decide) v2 _ w2 h2).mono ?_; rintro e w3 ⟨⟨v3, rfl, h3⟩, b3⟩)
      | (go_at_call 103; refine (first_res N v3 _ w3 h3 hNle _ HR.out).mono ?_; rintro e w4 ⟨rfl, b4⟩)
      | (go_at_call 60; refine (HX w4 (by show X.toArray.size ≤ _; simp; omega)).mono ?_; rintro e w5 ⟨rfl, b5⟩)
      | (go_at_call 107; refine (hT w5).mono ?_; rintro e w6 ⟨rfl, rfl⟩))
    go_ret2
    exact ⟨by rw [HF.out]; rfl, below_then (below_then (below_then (below_then b1 b2) b3) b4) b5⟩
  · have hso : (b64 X == s.toList) = false := by rw [toList_data]; simpa using hc
    have hT := only_any ⟨X.toArray⟩ false
    have HF : Hid (get64 s.data.toList = none) := by unfold Hid; rw [HG.out, if_neg hc]
    clear hc
    go_enter Tryz.func56, Tryz.ntmps56
    go_wp2_with (first
      | (go_at_call 102; refine (htr w).mono ?_; rintro e w0 ⟨rfl, rfl⟩)
      | (go_at_call 106; refine (forward_mk ⟨L.toArray⟩ _ (by omega)).mono ?_; rintro e w1 ⟨⟨v1, rfl, h1⟩, b1⟩)
      | (go_at_call 105; refine (numbers_mk by64B v1 _ w1 h1 by64_all).mono ?_; rintro e w2 ⟨⟨v2, rfl, h2⟩, b2⟩)
      | (go_at_call 104; refine (highest_mk 6 8 (by decide) (by decide) (by decide) (by decide) v2 _ w2 h2).mono ?_; rintro e w3 ⟨⟨v3, rfl, h3⟩, b3⟩)
      | (go_at_call 103; refine (first_res N v3 _ w3 h3 hNle _ HR.out).mono ?_; rintro e w4 ⟨rfl, b4⟩)
      | (go_at_call 60; refine (HX w4 (by show X.toArray.size ≤ _; simp; omega)).mono ?_; rintro e w5 ⟨rfl, b5⟩)
      | (go_at_call 107; refine (hT w5).mono ?_; rintro e w6 ⟨rfl, rfl⟩))
    go_ret2
    exact ⟨by rw [HF.out]; rfl, below_then (below_then (below_then (below_then b1 b2) b3) b4) b5⟩
end Go.Proofs.YtdajmekliodmcaaGreatDoor
/- GetBase64 of the document: what letters say, if anything. No condition but that there are up to a thousand. -/
namespace Go.Proofs.YtdajmekliodmcaaGreatDoor.R
open Go.RowKit Go.Shelf
set_option linter.unusedVariables false
set_option linter.unusedSimpArgs false
end Go.Proofs.YtdajmekliodmcaaGreatDoor.R
/- Cut of Go's strings at a stroke, and the iterator of package sig over the pieces between strokes: what it hands its rounds, whatever they do. Its condition: a text of no more than 1,000 bytes. -/
namespace Go.Proofs.YtdajmekliodmcaaGreatDoor
open Go.RowKit Go.Shelf
set_option linter.unusedVariables false
set_option linter.unusedSimpArgs false
attribute [local go_sem] Oper.semAt_some
def cutL (s : List UInt8) : List UInt8 × List UInt8 × Bool := match colon s with
  | none => (s, [], false)
  | some (p, r) => (p, r, true)
theorem cut_cases (r : List UInt8) {x y : List UInt8} {f : Bool} (h : (x, y, f) = cutL r) : (f = true ∧ r.length = x.length + 1 + y.length ∧ pieces r = x :: pieces y) ∨ (f = false ∧ y = [] ∧ x = r ∧ pieces r = [x]) := by
  unfold cutL at h
  cases hc : colon r with
  | none =>
    rw [hc] at h
    simp only [Prod.mk.injEq] at h
    obtain ⟨rfl, rfl, rfl⟩ := h
    exact .inr ⟨rfl, rfl, rfl, pieces_none hc⟩
  | some q =>
    obtain ⟨a, b⟩ := q
    rw [hc] at h
    simp only [Prod.mk.injEq] at h
    obtain ⟨rfl, rfl, rfl⟩ := h
    refine .inl ⟨rfl, ?_, pieces_some hc⟩
    have := congrArg List.length (colon_some hc).1
    simp at this
    omega
theorem index_none : ∀ {s : List UInt8}, colon s = none → Lib.indexByte s 58 = -1
  | [], _ => rfl
  | c :: l, h => by
    unfold colon at h
    by_cases hc : c = 58
    · rw [if_pos hc] at h; cases h
    · rw [if_neg hc] at h
      cases hq : colon l with
      | some q => rw [hq] at h; simp at h
      | none =>
        have h2 := index_none hq
        unfold Lib.indexByte
        rw [h2]
        have : (c == 58) = false := by simpa using hc
        rw [this]
        rfl
theorem index_some : ∀ {s p r : List UInt8}, colon s = some (p, r) → Lib.indexByte s 58 = (p.length : Int)
  | [], p, r, h => by simp [colon] at h
  | c :: l, p, r, h => by
    unfold colon at h
    by_cases hc : c = 58
    · rw [if_pos hc] at h
      simp only [Option.some.injEq, Prod.mk.injEq] at h
      obtain ⟨rfl, rfl⟩ := h
      unfold Lib.indexByte
      rw [hc]
      rfl
    · rw [if_neg hc] at h
      cases hq : colon l with
      | none => rw [hq] at h; simp at h
      | some q =>
        obtain ⟨a, b⟩ := q
        rw [hq] at h
        simp only [Option.map_some, Option.some.injEq, Prod.mk.injEq] at h
        obtain ⟨rfl, rfl⟩ := h
        have h2 := index_some hq
        unfold Lib.indexByte
        rw [h2]
        have : (c == 58) = false := by simpa using hc
        rw [this]
        have h3 : ((a.length : Int) == -1) = false := by
          simp only [beq_eq_false_iff_ne, ne_eq]; omega
        simp only [h3, Bool.false_eq_true, if_false, List.length_cons]
        omega
set_option maxRecDepth 100000 in
set_option maxHeartbeats 1000000 in
theorem cut_in (s : ByteArray) (hs : s.size ≤ 1000) (w : World) : Calls Tryz.prog 137 #[.string s, .string ⟨#[58]⟩] w fun e w' => e = .returned (.tuple #[.string ⟨(cutL s.data.toList).1.toArray⟩, .string ⟨(cutL s.data.toList).2.1.toArray⟩, .bool (cutL s.data.toList).2.2]) ∧ ∃ n, w' = w.drewN n := by
  have HI := Lib.hid (fun w => stringslite_Index_one s 58 w)
  cases hc : colon s.data.toList with
  | none =>
    rw [index_none hc] at HI
    have e : cutL s.data.toList = (s.data.toList, [], false) := by unfold cutL; rw [hc]
    rw [e]
    clear hc e
    go_enter Tryz.func137, Tryz.ntmps137
    go_wp2_with (go_at_call 168; refine (HI.out _).mono ?_; rintro e w1 ⟨rfl, rfl⟩)
    go_ret3
    exact ⟨rfl, 0, rfl⟩
  | some q =>
    obtain ⟨p, r⟩ := q
    rw [index_some hc] at HI
    have e : cutL s.data.toList = (p, r, true) := by unfold cutL; rw [hc]
    have hl := (colon_some hc).1
    have hlen : s.size = p.length + 1 + r.length := by
      have h2 := congrArg List.length hl
      have h3 : s.data.toList.length = s.size := rfl
      simp at h2
      omega
    rw [e]
    obtain ⟨k, hk⟩ : ∃ k, k = p.length := ⟨_, rfl⟩
    rw [← hk] at HI
    have hp : Hid (s.extract 0 k = ⟨p.toArray⟩) := by
      unfold Hid
      apply ByteArray.ext
      apply Array.toList_inj.1
      rw [ByteArray.data_extract, Array.toList_extract, hl, hk]
      simp
    have hr : Hid (s.extract (k + 1) s.size = ⟨r.toArray⟩) := by
      unfold Hid
      apply ByteArray.ext
      apply Array.toList_inj.1
      rw [ByteArray.data_extract, Array.toList_extract, hl, hk, hlen]
      simp
    have hkb : k + 1 ≤ s.size := by omega
    have h1 : (k : Int) ≥ 0 := by omega
    have h2 : (k : Int) ≤ (s.size : Int) := by omega
    have h3 : (k : Int) + 1 ≤ (s.size : Int) := by omega
    have h4 : IntKind.i64.wrap ((k : Int) + 1) = (k : Int) + 1 := by rw [IntKind.wrap_i64]; omega
    clear hc e hl hlen hk
    go_enter Tryz.func137, Tryz.ntmps137
    go_wp2_with (go_at_call 168; refine (HI.out _).mono ?_; rintro e w1 ⟨rfl, rfl⟩)
    go_region
    go_wp2
    go_ret3
    rw [← hp.out, ← hr.out]
    exact ⟨rfl, 1, rfl⟩
set_option maxRecDepth 100000 in
set_option maxHeartbeats 1000000 in
theorem cut_any (s : ByteArray) (hs : s.size ≤ 1000) (w : World) : Calls Tryz.prog 101 #[.string s, .string ⟨#[58]⟩] w fun e w' => e = .returned (.tuple #[.string ⟨(cutL s.data.toList).1.toArray⟩, .string ⟨(cutL s.data.toList).2.1.toArray⟩, .bool (cutL s.data.toList).2.2]) ∧ ∃ n, w' = w.drewN n := by
  have HI := Lib.hid (fun w => cut_in s hs w)
  obtain ⟨q, hq⟩ : ∃ q, Hid (q = cutL s.data.toList) := ⟨_, Lib.hid rfl⟩
  obtain ⟨a, b, f⟩ := q
  rw [← hq.out] at HI ⊢
  go_enter Tryz.func101, Tryz.ntmps101
  go_wp2_with (go_at_call 137; refine (HI.out _).mono ?_; rintro e w1 ⟨rfl, n, rfl⟩)
  go_ret3
  exact ⟨rfl, n, rfl⟩
theorem grown_drewN (W : World) (n : Nat) : W.grownBy (W.drewN n) none := ⟨rfl, rfl, rfl, Nat.le_refl _, fun _ _ _ => rfl⟩
/-- A piece, of no more than 1,000 bytes. -/
abbrev Pc : Type := { x : List UInt8 // x.length ≤ 1000 }
def lists (l : List Pc) : List (List UInt8) := l.map fun x => x.1
theorem lists_snoc (l : List Pc) (x : Pc) : lists (l ++ [x]) = lists l ++ [x.1] := by simp [lists]
theorem lists_len (l : List Pc) : (lists l).length = l.length := by simp [lists]
def encS (x : Pc) : Array Value := #[.string ⟨x.1.toArray⟩]
def KpS (Bp : Nat) (A B : World) : Prop := B.heap[Bp]? = A.heap[Bp]?
theorem parts_in (n : Nat) (s : ByteArray) (w : World) :
    CallsIn Fence.wide n Tryz.prog 55 #[.string s] w fun e w' => e = .returned (.func (.func 100) #[] #[.pointer (some ⟨w.heap.size, 0, none⟩)]) ∧ w.alloc (.cells #[.string s] 9) = w' := by
  refine callsIn_of_wp Tryz.func55 rfl trivial ?_ rfl
  simp only [Tryz.ntmps55, List.size_toArray, List.length_cons, List.length_nil, Nat.reduceAdd, Nat.reduceSub, Array.replicate_succ, Array.replicate_zero, List.push_toArray, List.append_toArray, List.nil_append, List.cons_append]
  gi_wp2
  go_ret
  exact ⟨rfl, rfl⟩
set_option maxRecDepth 100000 in
set_option maxHeartbeats 1000000 in
theorem parts1_in (m l Bp : Nat) (s : ByteArray) (hs : s.size ≤ 1000) (J Jx : List Pc → World → Prop) (W0 : Nat) (hJ : AbidesFrom W0 J)
    (hY : ∀ pre x W, J pre W → pre.length < 2000 → YieldAt Fence.wide (m - 1) Tryz.prog l (encS x) W fun e W' =>
      (e = .returned (.bool true) ∧ J (pre ++ [x]) W' ∧ KpS Bp W W') ∨ (e = .returned (.bool false) ∧ Jx (pre ++ [x]) W'))
    (W : World) (hbox : Boxed W Bp 9 (.string s)) (h0 : J [] W) (hm : 1 ≤ m) :
    CallsIn Fence.wide m Tryz.prog 100 #[.func (.yield l) #[] #[], .pointer (some ⟨Bp, 0, none⟩)] W fun e W' => (∃ v, e = .returned v) ∧ ((∃ xs, lists xs = pieces s.data.toList ∧ J xs W') ∨ (∃ pre, True ∧ Jx pre W')) := by
  have hsl : s.data.toList.length = s.size := rfl
  refine callsIn_of_wp Tryz.func100 rfl trivial ?_ rfl
  simp only [Tryz.ntmps100, List.size_toArray, List.length_cons, List.length_nil, Nat.reduceAdd, Nat.reduceSub, Array.replicate_succ, Array.replicate_zero, List.push_toArray, List.append_toArray, List.nil_append, List.cons_append]
  have cb := hbox.cell
  have hBX := Lib.hid hbox
  clear hbox
  gi_wp2
  clear cb
  gi_loopw [3, 4] (fun i f wr => ∃ (pre : List Pc) (r : List UInt8) (b : Bool), i = .string ⟨r.toArray⟩ ∧ f = .bool b ∧ r.length + pre.length ≤ s.size + 1 ∧ (b = true → r.length + pre.length ≤ s.size ∧ pieces s.data.toList = lists pre ++ pieces r) ∧ (b = false → r = [] ∧ pieces s.data.toList = lists pre) ∧ J pre wr ∧ Boxed wr Bp 9 (.string s))
    (fun i f _ => match i, f with | .string r, .bool b => r.size + (if b then 1 else 0) | _, _ => 0)
  case atStart => exact ⟨[], s.data.toList, true, rfl, rfl, by simp, fun _ => ⟨by simp, rfl⟩, (fun h => by cases h), h0, hBX.out⟩
  case round =>
    clear hBX h0
    obtain ⟨pre, r, b, rfl, rfl, hlen, ht, hf, hJs, hbx⟩ := hrel
    cases b with
    | true =>
      obtain ⟨hlen2, hp⟩ := ht rfl
      clear ht hf
      have HP := Lib.hid hp
      have HBX := Lib.hid hbx
      have HL := Lib.hid hlen2
      have hrs : (⟨r.toArray⟩ : ByteArray).size = r.length := by simp [ByteArray.size]
      have HC := Lib.hid (fun w => cut_any ⟨r.toArray⟩ (by rw [hrs]; omega) w)
      have hq0 : cutL (⟨r.toArray⟩ : ByteArray).data.toList = cutL r := rfl
      rw [hq0] at HC
      obtain ⟨q, hq⟩ : ∃ q, Hid (q = cutL r) := ⟨_, Lib.hid rfl⟩
      obtain ⟨x, y, f⟩ := q
      rw [← hq.out] at HC
      have hxl : x.length ≤ 1000 := by
        rcases cut_cases r hq.out with ⟨-, e1, -⟩ | ⟨-, -, e1, -⟩
        · omega
        · rw [e1]; omega
      have hYw := Lib.hid (fun n => hY pre ⟨x, hxl⟩ (wr.drewN n) (hJ _ _ _ none hJs (grown_drewN wr n) (fun _ e => by cases e)) (by omega))
      have HBX2 : Hid (∀ n, Boxed (wr.drewN n) Bp 9 (.string s)) := Lib.hid (fun n => hbx)
      clear hp hbx hlen2 hJs hrs hq0
      gi_wp2_with (refine ⟨trivial, ?_⟩; gi_at_call 101; refine (callsIn_wide.2 (HC.out _)).mono ?_; rintro e w1 ⟨rfl, n, rfl⟩)
      obtain ⟨fn, tmps, assign, body, hy, hR⟩ := hYw.out n
      have hR2 := Lib.hid hR
      have hyy : (Instr.yield l #[.string ⟨x.toArray⟩]).run Tryz.prog (wr.drewN n) = .ok (.round l fn tmps assign body) (wr.drewN n) := hy
      have HHY := Lib.hid hY
      clear hY hR hy hYw
      gi_wp2
      rw [hyy]
      gi_wp2
      refine hR2.out.mono ?_
      rintro e W3 (⟨rfl, hJ3, hk3⟩ | ⟨rfl, hJx3⟩)
      · have hbx3 : Boxed W3 Bp 9 (.string s) := Eq.trans hk3 (HBX2.out n)
        clear hk3 hyy
        gi_wp2
        go_roundw
        case rel =>
          have h1 := HP.out
          have h2 := HL.out
          rcases cut_cases r hq.out with ⟨rfl, e1, e2⟩ | ⟨rfl, e1, -, e2⟩
          · refine ⟨pre ++ [⟨x, hxl⟩], y, true, rfl, rfl, ?_, fun _ => ⟨?_, ?_⟩, (fun h => by cases h), hJ3, hbx3⟩
            · simp; omega
            · simp; omega
            · rw [h1, e2, lists_snoc]; simp
          · refine ⟨pre ++ [⟨x, hxl⟩], y, false, rfl, rfl, ?_, (fun h => by cases h), fun _ => ⟨e1, ?_⟩, hJ3, hbx3⟩
            · rw [e1]; simp; omega
            · rw [h1, e2, lists_snoc]
        case measure =>
          rcases cut_cases r hq.out with ⟨rfl, e1, e2⟩ | ⟨rfl, e1, -, e2⟩
          · simp [ByteArray.size]; omega
          · rw [e1]; simp [ByteArray.size]
      · clear hyy
        gi_wp2
        refine bodyPost_ret (results_none rfl _ _ _) rfl ?_
        exact ⟨⟨_, rfl⟩, Or.inr ⟨_, trivial, hJx3⟩⟩
    | false =>
      obtain ⟨rfl, hp⟩ := hf rfl
      have HP := Lib.hid hp
      have HJ := Lib.hid hJs
      clear hJs hY hbx ht hf hp
      gi_wp2
      go_end0
      exact ⟨⟨_, rfl⟩, .inl ⟨_, HP.out.symm, HJ.out⟩⟩
theorem parts_stops (m Bp : Nat) (s : ByteArray) (hs : s.size ≤ 1000) (w : World) (hbox : Boxed w Bp 9 (.string s)) (hm : 1 ≤ m) :
    SeqStopsK Fence.wide m Tryz.prog 100 #[.pointer (some ⟨Bp, 0, none⟩)] encS (KpS Bp) (fun xs => lists xs = pieces s.data.toList) (fun _ => True) 2000 w := by
  intro l J Jx W hW hJ hJx hY h0
  exact parts1_in m l Bp s hs J Jx _ hJ hY W ((hW.block Bp hbox.lt).trans hbox) h0 hm
end Go.Proofs.YtdajmekliodmcaaGreatDoor
