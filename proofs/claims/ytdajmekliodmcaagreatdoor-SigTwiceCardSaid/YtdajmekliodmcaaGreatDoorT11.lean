/- Several texts, one behind the other; each says by itself what it proves, and on what conditions. -/
import Derived.Test.YtdajmekliodmcaaGreatDoorT10
import Derived.Deep.DeepCutAuto
import Derived.Deep.CutBlock
import Derived.Laws.Externs
import Derived.Deep.RegionHeld3
import Derived.BigRegion
import Derived.IntWalk
import Derived.Laws.Bits64b
/- The end of behind of package wide: the eight are each more by what came of them. No condition but that the numbers have 64 bits. -/
namespace Go.Proofs.YtdajmekliodmcaaGreatDoor.W4
set_option linter.unusedSimpArgs false
open Go.RowKit
set_option linter.unusedVariables false

theorem quiet_left {P : Program} {f : FuncId} {args : Array Value} {w : World} {n : Nat} {v : Value}
    (h : Calls P f args (w.drewN n) fun e w' => e = .returned v ∧ w.drewN n = w') : Calls P f args (w.drewN n) fun e w'' => e = .returned v ∧ ∃ m, w'' = w.drewN m :=
  h.mono fun _ _ ⟨he, hm⟩ => ⟨he, n, hm.symm⟩

def cells (s : St) : List Value := [.int .u64 s.a, .int .u64 s.b, .int .u64 s.c, .int .u64 s.d, .int .u64 s.e, .int .u64 s.f, .int .u64 s.g, .int .u64 s.h]
theorem cells_size (s : St) : (Tryz.prog.info? 121).map (·.size) = some (cells s).length := by rw [show (cells s).length = 8 from rfl]; kernel_rfl
theorem cells_one (s : St) : ∀ v ∈ cells s, v.oneCell' = true := by
  intro v hv
  simp [cells] at hv
  rcases hv with rfl | rfl | rfl | rfl | rfl | rfl | rfl | rfl <;> rfl
def s0 : St := ⟨0, 0, 0, 0, 0, 0, 0, 0⟩
theorem zero32 (w : World) : (zeroValue 121).run Tryz.prog w = .ok (.agg (cells s0).toArray) w := by kernel_rfl

def St.at (s : St) : Nat → Nat
  | 0 => s.a
  | 1 => s.b
  | 2 => s.c
  | 3 => s.d
  | 4 => s.e
  | 5 => s.f
  | 6 => s.g
  | _ => s.h
theorem cells_row (s : St) : cells s = rowOf .u64 8 s.at := rfl
theorem idx32 (t : St) (i : Nat) (hi : i < 8) (w : World) : (Instr.index 121 (.agg #[.int .u64 t.a, .int .u64 t.b, .int .u64 t.c, .int .u64 t.d, .int .u64 t.e, .int .u64 t.f, .int .u64 t.g, .int .u64 t.h]) (.int .i64 i)).run Tryz.prog w = .ok (.int .u64 (t.at i)) w := by
  rcases (show i = 0 ∨ i = 1 ∨ i = 2 ∨ i = 3 ∨ i = 4 ∨ i = 5 ∨ i = 6 ∨ i = 7 by omega) with rfl | rfl | rfl | rfl | rfl | rfl | rfl | rfl <;> kernel_rfl
/-- What stands in the eight once i of them are more. -/
def PTo (s t : St) (i j : Nat) : Nat := if j < i then add (s.at j) (t.at j) else s.at j
theorem PTo_step (s t : St) (i : Nat) : ∀ j, j < 8 → upd (PTo s t i) i (add (s.at i) (t.at i)) j = PTo s t (i + 1) j := by
  intro j _
  unfold upd PTo
  by_cases e : j = i
  · subst e; rw [if_pos rfl, if_pos (by omega)]
  · rw [if_neg e]
    by_cases h : j < i
    · rw [if_pos h, if_pos (by omega)]
    · rw [if_neg h, if_neg (by omega)]
theorem PTo_all (s t : St) : rowOf .u64 8 (PTo s t 8) = cells (plus s t) := rfl
theorem wadd (a b : Nat) : IntKind.u64.wrap ((a : Int) + (b : Int)) = ((add a b : Nat) : Int) := wrapM (a + b)
theorem u_int (t : St) (ht : t.ok) (k w : Nat) : IntKind.u64.wrap (IntKind.u64.wrap (IntKind.u64.wrap (IntKind.u64.wrap ((t.h : Int) + bits BinOp.xor IntKind.u64 (bits BinOp.xor IntKind.u64 ((rorN t.e 14 : Nat) : Int) ((rorN t.e 18 : Nat) : Int)) ((rorN t.e 41 : Nat) : Int)) +
    bits BinOp.xor IntKind.u64 (bits BinOp.and IntKind.u64 (t.e : Int) (t.f : Int)) (bits BinOp.and IntKind.u64 (bits BinOp.xor IntKind.u64 (if IntKind.u64.signed = true then -1 else IntKind.u64.max) (t.e : Int)) (t.g : Int))) + (k : Int)) + (w : Int)) = ((uN t k w : Nat) : Int) := by
  obtain ⟨h1, h2, h3, h4, h5, h6, h7, h8⟩ := ht
  have e1 := u64_xor_nat _ _ (rorN_lt 14 h5) (rorN_lt 18 h5)
  have e2 := u64_xor_nat _ _ (xor_lt (rorN_lt 14 h5) (rorN_lt 18 h5)) (rorN_lt 41 h5)
  have e3 := bits_and_u64_nat t.e t.f h5 h6
  have e4 : bits BinOp.xor IntKind.u64 (if IntKind.u64.signed = true then -1 else IntKind.u64.max) (t.e : Int) = ((18446744073709551615 ^^^ t.e : Nat) : Int) := u64_xor_nat 18446744073709551615 t.e (by decide) h5
  have hx : 18446744073709551615 ^^^ t.e < 18446744073709551616 := xor_lt (by decide) h5
  have e5 := bits_and_u64_nat (18446744073709551615 ^^^ t.e) t.g hx h7
  have e6 := u64_xor_nat (t.e &&& t.f) ((18446744073709551615 ^^^ t.e) &&& t.g) (and_lt h5) (and_lt hx)
  rw [e1, e2, e3, e4, e5, e6, wadd, wadd, wadd, wadd]
  rfl
theorem v_int (t : St) (ht : t.ok) : IntKind.u64.wrap (bits BinOp.xor IntKind.u64 (bits BinOp.xor IntKind.u64 ((rorN t.a 28 : Nat) : Int) ((rorN t.a 34 : Nat) : Int)) ((rorN t.a 39 : Nat) : Int) +
    bits BinOp.xor IntKind.u64 (bits BinOp.xor IntKind.u64 (bits BinOp.and IntKind.u64 (t.a : Int) (t.b : Int)) (bits BinOp.and IntKind.u64 (t.a : Int) (t.c : Int))) (bits BinOp.and IntKind.u64 (t.b : Int) (t.c : Int))) = ((vN t : Nat) : Int) := by
  obtain ⟨h1, h2, h3, h4, h5, h6, h7, h8⟩ := ht
  have e1 := u64_xor_nat _ _ (rorN_lt 28 h1) (rorN_lt 34 h1)
  have e2 := u64_xor_nat _ _ (xor_lt (rorN_lt 28 h1) (rorN_lt 34 h1)) (rorN_lt 39 h1)
  have e3 := bits_and_u64_nat t.a t.b h1 h2
  have e4 := bits_and_u64_nat t.a t.c h1 h3
  have e5 := bits_and_u64_nat t.b t.c h2 h3
  have e6 := u64_xor_nat (t.a &&& t.b) (t.a &&& t.c) (and_lt h1) (and_lt h1)
  have e7 := u64_xor_nat ((t.a &&& t.b) ^^^ (t.a &&& t.c)) (t.b &&& t.c) (xor_lt (and_lt h1) (and_lt h1)) (and_lt h2)
  rw [e1, e2, e3, e4, e5, e6, e7, wadd]
  rfl
/-- The loops of a code, the outermost ones, in order. -/
def loopsOf : Code → List Code
  | .loop c => [c]
  | .seq a b => loopsOf a ++ loopsOf b
  | .block _ c => loopsOf c
  | .scope c => loopsOf c
  | .cond _ a b => loopsOf a ++ loopsOf b
  | _ => []
end Go.Proofs.YtdajmekliodmcaaGreatDoor.W4
/- Products of words of 64 bits: math/bits.Mul64 as package wide calls it. No condition but that the numbers have 64 bits. -/
namespace Go.Proofs.YtdajmekliodmcaaGreatDoor.W4
set_option linter.unusedSimpArgs false
open Go.RowKit
set_option linter.unusedVariables false
theorem mul_le32 {a b : Nat} (ha : a < 4294967296) (hb : b < 4294967296) : a * b ≤ 18446744065119617025 :=
  Nat.le_trans (Nat.mul_le_mul (Nat.le_of_lt_succ ha) (Nat.le_of_lt_succ hb)) (by decide)
theorem mul_parts (x y : Nat) : x * y = x % 4294967296 * (y % 4294967296) + (x / 4294967296 * (y % 4294967296) + x % 4294967296 * (y / 4294967296)) * 4294967296 + x / 4294967296 * (y / 4294967296) * 18446744073709551616 := by
  have hx : x = x / 4294967296 * 4294967296 + x % 4294967296 := by omega
  have hy : y = y / 4294967296 * 4294967296 + y % 4294967296 := by omega
  generalize x / 4294967296 = x1 at *
  generalize x % 4294967296 = x0 at *
  generalize y / 4294967296 = y1 at *
  generalize y % 4294967296 = y0 at *
  subst hx
  subst hy
  have h1 : x1 * 4294967296 * (y1 * 4294967296) = x1 * y1 * 18446744073709551616 := by rw [Nat.mul_mul_mul_comm]
  have h2 : x1 * 4294967296 * y0 = x1 * y0 * 4294967296 := by rw [Nat.mul_right_comm]
  have h3 : x0 * (y1 * 4294967296) = x0 * y1 * 4294967296 := by rw [Nat.mul_assoc]
  rw [Nat.add_mul, Nat.mul_add, Nat.mul_add, h1, h2, h3]
  omega
theorem mulHi_lt {x y : Nat} (hx : x < 18446744073709551616) (hy : y < 18446744073709551616) : mulHi x y < 18446744073709551616 := by
  unfold mulHi
  have h : x * y ≤ 18446744073709551615 * 18446744073709551615 := Nat.mul_le_mul (Nat.le_of_lt_succ hx) (Nat.le_of_lt_succ hy)
  generalize x * y = z at *
  omega
theorem mulLo_lt (x y : Nat) : mulLo x y < 18446744073709551616 := Nat.mod_lt _ (by decide)
theorem and32 (x : Nat) (hx : x < 18446744073709551616) : bits .and .u64 (x : Int) 4294967295 = ((x % 4294967296 : Nat) : Int) := by
  have h := bits_and_u64_nat x 4294967295 hx (by decide)
  have h2 : x &&& 4294967295 = x % 4294967296 := Nat.and_two_pow_sub_one_eq_mod x 32
  rw [h2] at h
  exact h
theorem wrap_id {n : Nat} (hn : n < 18446744073709551616) : IntKind.u64.wrap (n : Int) = (n : Int) := by
  rw [wrapM, Nat.mod_eq_of_lt hn]
/-- The pieces by which the product is found. -/
theorem mul_ex (x y : Nat) (hx : x < 18446744073709551616) (hy : y < 18446744073709551616) : ∃ x0 x1 y0 y1 A A1 B t w1 w2 C v D v1 s1 hi XY lo : Nat,
    (bits .and .u64 (x : Int) 4294967295 = (x0 : Int) ∧ (x : Int) / 4294967296 = (x1 : Int) ∧ bits .and .u64 (y : Int) 4294967295 = (y0 : Int) ∧ (y : Int) / 4294967296 = (y1 : Int)) ∧
    ((x0 : Int) * (y0 : Int) = (A : Int) ∧ (A : Int) / 4294967296 = (A1 : Int) ∧ (x1 : Int) * (y0 : Int) = (B : Int) ∧ (B : Int) + (A1 : Int) = (t : Int)) ∧
    (bits .and .u64 (t : Int) 4294967295 = (w1 : Int) ∧ (t : Int) / 4294967296 = (w2 : Int) ∧ (x0 : Int) * (y1 : Int) = (C : Int) ∧ (w1 : Int) + (C : Int) = (v : Int)) ∧
    ((x1 : Int) * (y1 : Int) = (D : Int) ∧ (v : Int) / 4294967296 = (v1 : Int) ∧ (D : Int) + (w2 : Int) = (s1 : Int) ∧ (s1 : Int) + (v1 : Int) = (hi : Int)) ∧
    ((x : Int) * (y : Int) = (XY : Int) ∧ IntKind.u64.wrap (XY : Int) = (lo : Int)) ∧
    (IntKind.u64.wrap (A : Int) = (A : Int) ∧ IntKind.u64.wrap (B : Int) = (B : Int) ∧ IntKind.u64.wrap (t : Int) = (t : Int) ∧ IntKind.u64.wrap (C : Int) = (C : Int) ∧ IntKind.u64.wrap (v : Int) = (v : Int) ∧ IntKind.u64.wrap (D : Int) = (D : Int) ∧ IntKind.u64.wrap (s1 : Int) = (s1 : Int) ∧ IntKind.u64.wrap (hi : Int) = (hi : Int)) ∧
    hi = mulHi x y ∧ lo = mulLo x y := by
  have hp := mul_parts x y
  have a0 := and32 x hx
  have b0 := and32 y hy
  have x0l : x % 4294967296 < 4294967296 := Nat.mod_lt _ (by decide)
  have y0l : y % 4294967296 < 4294967296 := Nat.mod_lt _ (by decide)
  have x1l : x / 4294967296 < 4294967296 := by omega
  have y1l : y / 4294967296 < 4294967296 := by omega
  have hA := mul_le32 x0l y0l
  have hB := mul_le32 x1l y0l
  have hC := mul_le32 x0l y1l
  have hD := mul_le32 x1l y1l
  have e1 : (x : Int) / 4294967296 = ((x / 4294967296 : Nat) : Int) := by omega
  have e2 : (y : Int) / 4294967296 = ((y / 4294967296 : Nat) : Int) := by omega
  have hmul : ∀ a b : Nat, (a : Int) * (b : Int) = ((a * b : Nat) : Int) := fun a b => (Int.natCast_mul a b).symm
  have hxy := hmul x y
  unfold mulHi mulLo
  generalize x / 4294967296 = x1 at *
  generalize x % 4294967296 = x0 at *
  generalize y / 4294967296 = y1 at *
  generalize y % 4294967296 = y0 at *
  have hAe := hmul x0 y0
  have hBe := hmul x1 y0
  have hCe := hmul x0 y1
  have hDe := hmul x1 y1
  generalize x0 * y0 = A at *
  generalize x1 * y0 = B at *
  generalize x0 * y1 = C at *
  generalize x1 * y1 = D at *
  generalize x * y = XY at *
  have ht : B + A / 4294967296 < 18446744073709551616 := by omega
  have hw := and32 (B + A / 4294967296) ht
  refine ⟨x0, x1, y0, y1, A, A / 4294967296, B, B + A / 4294967296, (B + A / 4294967296) % 4294967296, (B + A / 4294967296) / 4294967296, C, (B + A / 4294967296) % 4294967296 + C, D, ((B + A / 4294967296) % 4294967296 + C) / 4294967296, D + (B + A / 4294967296) / 4294967296, D + (B + A / 4294967296) / 4294967296 + ((B + A / 4294967296) % 4294967296 + C) / 4294967296, XY, XY % 18446744073709551616,
    ⟨a0, e1, b0, e2⟩, ⟨hAe, by omega, hBe, by omega⟩, ⟨hw, by omega, hCe, by omega⟩, ⟨hDe, by omega, by omega, by omega⟩, ⟨hxy, wrapM XY⟩, ⟨wrap_id (by omega), wrap_id (by omega), wrap_id (by omega), wrap_id (by omega), wrap_id (by omega), wrap_id (by omega), wrap_id (by omega), wrap_id (by omega)⟩, by omega, rfl⟩
set_option maxRecDepth 100000 in
set_option maxHeartbeats 1000000 in
theorem mul64_any (x y : Nat) (hx : x < 18446744073709551616) (hy : y < 18446744073709551616) (w : World) :
    Calls Tryz.prog 174 #[.int .u64 x, .int .u64 y] w fun e w' => e = .returned (.tuple #[.int .u64 (mulHi x y), .int .u64 (mulLo x y)]) ∧ w = w' := by
  obtain ⟨x0, x1, y0, y1, A, A1, B, t, w1, w2, C, v, D, v1, s1, hi, XY, lo, ⟨f1, f2, f3, f4⟩, ⟨f5, f6, f7, f8⟩, ⟨f9, f10, f11, f12⟩, ⟨f13, f14, f15, f16⟩, ⟨f17, f18⟩, ⟨g1, g2, g3, g4, g5, g6, g7, g8⟩, hh, hl⟩ := mul_ex x y hx hy
  rw [← hh, ← hl]
  clear hh hl
  go_enter Tryz.func174, Tryz.ntmps174
  go_wp2
  go_ret2
  exact ⟨rfl, rfl⟩
end Go.Proofs.YtdajmekliodmcaaGreatDoor.W4
/- AddNum of the document's package: numbers of four words added. No condition but that the words have 64 bits. -/
namespace Go.Proofs.YtdajmekliodmcaaGreatDoor.W4
set_option linter.unusedSimpArgs false
open Go.RowKit
set_option linter.unusedVariables false
def N4.ok (x : N4) : Prop := x.a < 18446744073709551616 ∧ x.b < 18446744073709551616 ∧ x.c < 18446744073709551616 ∧ x.d < 18446744073709551616
theorem results_two {fn : Func} {a b : Tmp} {t : TypeId} (h : fn.results = #[.cell a t, .tmp b]) (tmps : Array Value) (P : Program) (w : World) (ad : Addr) (ha : tmps.getD a undef = .pointer (some ad)) (v : Value)
    (hl : (loadVar t ad).run P w = .ok v w) : (results fn tmps).run P w = .ok (.tuple #[v, tmps.getD b undef]) w := by
  have ha2 : tmps[a]?.getD undef = .pointer (some ad) := by rw [← Array.getD_eq_getD_getElem?]; exact ha
  unfold results
  rw [h]
  simp [Array.mapM_eq_mapM_toList, ha2, asAddr, hl]
end Go.Proofs.YtdajmekliodmcaaGreatDoor.W4
/- Products of three words with one, of package wide. No condition but that the numbers have 64 bits. -/
namespace Go.Proofs.YtdajmekliodmcaaGreatDoor.W4
set_option linter.unusedSimpArgs false
open Go.RowKit
set_option linter.unusedVariables false
theorem add64_run (x y c : Nat) (hc : c ≤ 1) (W : World) : (callFunc 124 #[.int .u64 x, .int .u64 y, .int .u64 c]).run Tryz.prog W =
    .ok (.value (.tuple #[.int .u64 (((x + y + c) % 18446744073709551616 : Nat) : Int), .int .u64 (((x + y + c) / 18446744073709551616 : Nat) : Int)])) W := by
  rw [run_callFunc_extern (e := add64Entry) Tryz.func124 (by kernel_rfl) (by kernel_rfl) (by kernel_rfl) (by kernel_rfl), run_add64 x y c (by omega) (by omega) (by omega) (by omega)]
  simp only [Result.andThen]
  congr 1
def l3 (x : L3) : List Value := [.int .u64 x.a, .int .u64 x.b, .int .u64 x.c]
def L3.ok (x : L3) : Prop := x.a < 18446744073709551616 ∧ x.b < 18446744073709551616 ∧ x.c < 18446744073709551616
set_option maxRecDepth 100000 in
set_option maxHeartbeats 1000000 in
theorem times_any (x : L3) (hx : x.ok) (n : Nat) (hn : n < 18446744073709551616) (w : World) :
    Calls Tryz.prog 154 #[.agg (l3 x).toArray, .int .u64 n] w fun e w' => e = .returned (.tuple #[.agg (l3 (timesL x n)).toArray, .int .u64 (timesO x n)]) ∧ Below w.heap.size w w' := by
  have HM1 := Lib.hid (mul64_any x.a n hx.1 hn)
  have HM2 := Lib.hid (mul64_any x.b n hx.2.1 hn)
  have HM3 := Lib.hid (mul64_any x.c n hx.2.2 hn)
  have hcy : tmMid x n / 18446744073709551616 ≤ 1 := by
    have h1 := mulHi_lt hx.1 hn
    have h2 := mulLo_lt x.b n
    unfold tmMid
    omega
  have A1 := fun W => add64_run (mulHi x.a n) (mulLo x.b n) 0 (by omega) W
  have A2 := fun W => add64_run (mulHi x.b n) (mulLo x.c n) (tmMid x n / 18446744073709551616) hcy W
  have hW : IntKind.u64.wrap (((mulHi x.c n : Nat) : Int) + ((tmHigh x n / 18446744073709551616 : Nat) : Int)) = ((timesO x n : Nat) : Int) := wrapM _
  rw [Nat.add_zero] at A1
  rw [show mulHi x.a n + mulLo x.b n = tmMid x n from rfl] at A1
  rw [show mulHi x.b n + mulLo x.c n + tmMid x n / 18446744073709551616 = tmHigh x n from rfl] at A2
  obtain ⟨T, hT⟩ : ∃ T, Hid (T = timesL x n) := ⟨_, Lib.hid rfl⟩
  have hTa : mulLo x.a n = T.a := by rw [hT.out]; rfl
  have hTb : tmMid x n % 18446744073709551616 = T.b := by rw [hT.out]; rfl
  have hTc : tmHigh x n % 18446744073709551616 = T.c := by rw [hT.out]; rfl
  rw [← hT.out]
  rw [hTa] at HM1
  rw [hTb] at A1
  rw [hTc] at A2
  clear hTa hTb hTc hT
  generalize timesO x n = O at *
  generalize mulHi x.a n = a1 at *
  generalize mulHi x.b n = b1 at *
  generalize mulHi x.c n = c1 at *
  generalize mulLo x.b n = b0 at *
  generalize mulLo x.c n = c0 at *
  generalize tmMid x n / 18446744073709551616 = cy at *
  generalize tmHigh x n / 18446744073709551616 = cz at *
  have A1' : ∀ W, (callFunc 124 #[.int .u64 a1, .int .u64 b0, .int .u64 0]).run Tryz.prog W = .ok (.value (.tuple #[.int .u64 (T.b : Int), .int .u64 (cy : Int)])) W := A1
  clear A1 hcy
  unfold l3
  go_enter Tryz.func154, Tryz.ntmps154
  go_wp2_with fail
  refine (HM1.out _).mono ?_
  rintro e w' ⟨rfl, rfl⟩
  go_wp2_with fail
  refine (HM2.out _).mono ?_
  rintro e w' ⟨rfl, rfl⟩
  go_wp2_with fail
  refine (HM3.out _).mono ?_
  rintro e w' ⟨rfl, rfl⟩
  go_wp2_with fail
  have hld : ∀ W : World, (loadVar 160 ⟨W.heap.size, 0, none⟩).run Tryz.prog (W.alloc (.cells (l3 T).toArray 160)) = .ok (.agg (l3 T).toArray) (W.alloc (.cells (l3 T).toArray 160)) := by
    intro W
    refine run_loadVar_seg _ 160 W.heap.size 0 (l3 T) _ (fun j v hv => ?_) Tryz.underlying160 rfl (by kernel_rfl)
    rw [cell_of_row _ W.heap.size (0 + j) (l3 T).toArray 160 (0, 0) (heap_alloc_new _ _), Nat.zero_add, List.getElem?_toArray, hv]
  have h := hld (w.alloc (.cells #[.int .u64 x.a, .int .u64 x.b, .int .u64 x.c] 160))
  rw [World.size_alloc] at h
  refine bodyPost_ret (results_two rfl _ _ _ ⟨w.heap.size + 1, 0, none⟩ rfl _ h) rfl ⟨?_, ((Below.refl _ w).alloc (Nat.le_refl _) _).alloc (by simp) _⟩
  rfl
end Go.Proofs.YtdajmekliodmcaaGreatDoor.W4
/- Squares and cubes of a number with bits behind its point, of package wide. No condition but that the numbers have 64 bits. -/
namespace Go.Proofs.YtdajmekliodmcaaGreatDoor.W4
set_option linter.unusedSimpArgs false
open Go.RowKit
set_option linter.unusedVariables false
theorem wmul (a b : Nat) : IntKind.u64.wrap ((a : Int) * (b : Int)) = ((a * b % 18446744073709551616 : Nat) : Int) := by
  have h := wrapM (a * b)
  rw [Int.natCast_mul] at h
  exact h
theorem wplus (a b : Nat) : IntKind.u64.wrap ((a : Int) + (b : Int)) = (((a + b) % 18446744073709551616 : Nat) : Int) := wrapM (a + b)
theorem wmul2 (b : Nat) : IntKind.u64.wrap (2 * (b : Int)) = ((2 * b % 18446744073709551616 : Nat) : Int) := wmul 2 b
theorem wmul3 (b : Nat) : IntKind.u64.wrap (3 * (b : Int)) = ((3 * b % 18446744073709551616 : Nat) : Int) := wmul 3 b
theorem mod_lt64 (n : Nat) : n % 18446744073709551616 < 18446744073709551616 := Nat.mod_lt _ (by decide)
set_option maxRecDepth 100000 in
set_option maxHeartbeats 1000000 in
theorem square_any (a f : Nat) (ha : a < 18446744073709551616) (hf : f < 18446744073709551616) (w : World) :
    Calls Tryz.prog 113 #[.agg #[.int .u64 a, .int .u64 f]] w fun e w' => e = .returned (.int .u64 (sqN a f)) ∧ Below w.heap.size w w' := by
  have e1 := wmul2 a
  have e2 := wmul a a
  have HT := Lib.hid (times_any ⟨f, 2 * a % 18446744073709551616, 0⟩ ⟨hf, mod_lt64 _, Nat.zero_lt_succ _⟩ f hf)
  have e3 := wplus (timesL ⟨f, 2 * a % 18446744073709551616, 0⟩ f).c (a * a % 18446744073709551616)
  rw [show ((timesL ⟨f, 2 * a % 18446744073709551616, 0⟩ f).c + a * a % 18446744073709551616) % 18446744073709551616 = sqN a f from rfl] at e3
  generalize sqN a f = out at *
  generalize timesL ⟨f, 2 * a % 18446744073709551616, 0⟩ f = T at *
  generalize timesO ⟨f, 2 * a % 18446744073709551616, 0⟩ f = O at *
  unfold l3 at HT
  simp only at HT
  generalize 2 * a % 18446744073709551616 = a2 at *
  generalize a * a % 18446744073709551616 = aa at *
  go_enter Tryz.func113, Tryz.ntmps113
  go_wp2_with fail
  refine (HT.out _).mono ?_
  rintro e w1 ⟨rfl, hb1⟩
  have HB := Lib.hid (((Below.refl _ w).alloc (Nat.le_refl _) (.cells #[.int .u64 a, .int .u64 f] 158)).trans (hb1.mono (by simp)))
  have hz : w.heap.size + 1 ≤ w1.heap.size := by have := hb1.size; simp at this; omega
  clear hb1 HT
  go_wp2
  go_ret
  exact ⟨rfl, HB.out.alloc (by omega) _⟩
set_option maxRecDepth 100000 in
set_option maxHeartbeats 1000000 in
theorem cube_any (a f : Nat) (ha : a < 18446744073709551616) (hf : f < 18446744073709551616) (w : World) :
    Calls Tryz.prog 151 #[.agg #[.int .u64 a, .int .u64 f]] w fun e w' => e = .returned (.int .u64 (cuN a f)) ∧ Below w.heap.size w w' := by
  have e1 := wmul3 a
  have e2 := wmul a a
  have e5 := wmul (3 * a % 18446744073709551616) a
  have e6 := wmul (a * a % 18446744073709551616) a
  have HT := Lib.hid (times_any ⟨f, 3 * a % 18446744073709551616, 0⟩ ⟨hf, mod_lt64 _, Nat.zero_lt_succ _⟩ f hf)
  have e3 := wplus (timesL ⟨f, 3 * a % 18446744073709551616, 0⟩ f).c (3 * a % 18446744073709551616 * a % 18446744073709551616)
  have HT2 := Lib.hid (times_any (cuMid a f) ⟨mulLo_lt _ _, mod_lt64 _, mod_lt64 _⟩ f hf)
  have e7 := wplus (timesO (cuMid a f) f) (a * a % 18446744073709551616 * a % 18446744073709551616)
  rw [show (timesO (cuMid a f) f + a * a % 18446744073709551616 * a % 18446744073709551616) % 18446744073709551616 = cuN a f from rfl] at e7
  have c1 : Hid ((cuMid a f).a = (timesL ⟨f, 3 * a % 18446744073709551616, 0⟩ f).a) := Lib.hid rfl
  have c2 : Hid ((cuMid a f).b = (timesL ⟨f, 3 * a % 18446744073709551616, 0⟩ f).b) := Lib.hid rfl
  have c3 : ((timesL ⟨f, 3 * a % 18446744073709551616, 0⟩ f).c + 3 * a % 18446744073709551616 * a % 18446744073709551616) % 18446744073709551616 = (cuMid a f).c := rfl
  rw [c3] at e3
  clear c3
  unfold l3 at HT HT2
  simp only at HT
  generalize cuN a f = out at *
  generalize timesO (cuMid a f) f = O2 at *
  generalize timesL (cuMid a f) f = T2 at *
  generalize cuMid a f = M at *
  generalize timesL ⟨f, 3 * a % 18446744073709551616, 0⟩ f = T at *
  generalize timesO ⟨f, 3 * a % 18446744073709551616, 0⟩ f = O at *
  rw [c1.out, c2.out] at HT2
  clear c1 c2
  generalize 3 * a % 18446744073709551616 * a % 18446744073709551616 = a3a at *
  generalize 3 * a % 18446744073709551616 = a3 at *
  generalize a * a % 18446744073709551616 * a % 18446744073709551616 = aaa at *
  generalize a * a % 18446744073709551616 = aa at *
  go_enter Tryz.func151, Tryz.ntmps151
  go_wp2_with fail
  refine (HT.out _).mono ?_
  rintro e w1 ⟨rfl, hb1⟩
  have HB := Lib.hid (((Below.refl _ w).alloc (Nat.le_refl _) (.cells #[.int .u64 a, .int .u64 f] 158)).trans (hb1.mono (by simp)))
  have hz : w.heap.size + 1 ≤ w1.heap.size := by have := hb1.size; simp at this; omega
  have hf1 : w1.cell? ⟨w.heap.size, 1, none⟩ = some (.int .u64 f) := by
    rw [hb1.cell (p := ⟨w.heap.size, 1, none⟩) (by simp), cell_of_row _ w.heap.size 1 #[.int .u64 a, .int .u64 f] 158 (0, 0) (heap_alloc_new _ _)]
    rfl
  have hz1 : w.heap.size < w1.heap.size := by omega
  have hz2 : ¬ w1.heap.size = w.heap.size := by omega
  have hz3 : ¬ w.heap.size = w1.heap.size := by omega
  clear hb1 HT
  go_wp2_with fail
  refine (HT2.out _).mono ?_
  rintro e w2 ⟨rfl, hb2⟩
  have HB2 := Lib.hid ((HB.out.alloc (by omega) (.cells #[.int .u64 T.a, .int .u64 T.b, .int .u64 M.c] 160)).trans (hb2.mono (by simp; omega)))
  have hz4 : w.heap.size ≤ w2.heap.size := HB2.out.size
  clear hb2 HT2
  go_wp2
  go_ret
  exact ⟨rfl, HB2.out.alloc hz4 _⟩
end Go.Proofs.YtdajmekliodmcaaGreatDoor.W4
/- prime of package wide: whether a number up to 410 is a prime. -/
namespace Go.Proofs.YtdajmekliodmcaaGreatDoor.W4
set_option linter.unusedSimpArgs false
open Go.RowKit
set_option linter.unusedVariables false
theorem sq_bound (q : Nat) : 22 ≤ q → 484 ≤ q * q := fun h => Nat.mul_le_mul h h
theorem prTo_step (p n q : Nat) : prTo p (n + 1) q = if q * q ≤ p then (if p % q = 0 then false else prTo p n (q + 1)) else true := rfl
set_option maxRecDepth 100000 in
set_option maxHeartbeats 1000000 in
theorem prime_any (p : Nat) (hp : p ≤ 410) (w : World) : Calls Tryz.prog 152 #[.int .u64 p] w fun e w' => e = .returned (.bool (isPr p)) ∧ w = w' := by
  obtain ⟨out, hout⟩ : ∃ out, Hid (out = isPr p) := ⟨_, Lib.hid rfl⟩
  rw [← hout.out]
  go_enter Tryz.func152, Tryz.ntmps152
  go_wp2
  go_loop [3] (fun v => ∃ n q : Nat, 2 ≤ q ∧ q ≤ 22 ∧ n + q = 32 ∧ v = .int .u64 q ∧ Hid (prTo p n q = out)) (fun v => 22 - (intOf v).toNat)
  case atStart => exact ⟨30, 2, by omega, by omega, by omega, rfl, by rw [hout.out]; exact Lib.hid rfl⟩
  case round =>
    obtain ⟨n, q, hq2, hq3, hnq, rfl, hpr⟩ := hrel
    obtain ⟨qq, hqq⟩ : ∃ qq, qq = q * q := ⟨_, rfl⟩
    have e1 : (q : Int) * (q : Int) = (qq : Int) := by rw [hqq, Int.natCast_mul]
    have hqb : qq ≤ 484 := by rw [hqq]; exact Nat.mul_le_mul hq3 hq3
    obtain ⟨m, rfl⟩ : ∃ m, n = m + 1 := ⟨n - 1, by omega⟩
    have hst := hpr.out
    rw [prTo_step, ← hqq] at hst
    clear hpr
    by_cases hle : qq ≤ p
    · have hq22 : q < 22 := by
        rcases Nat.lt_or_ge q 22 with h | h
        · exact h
        · have := sq_bound q h
          omega
      rw [if_pos hle] at hst
      clear hqq
      by_cases hm : p % q = 0
      · rw [if_pos hm] at hst
        have em : (p : Int) % (q : Int) = 0 := by omega
        subst hst
        clear hm
        go_wp2
        go_ret
        exact ⟨rfl, rfl⟩
      · rw [if_neg hm] at hst
        have em : ¬ (p : Int) % (q : Int) = 0 := by omega
        have HST := Lib.hid hst
        clear hst hm
        go_wp2
        go_round
        case rel => exact ⟨m, q + 1, by omega, by omega, by omega, by go_num, HST⟩
        case measure => simp [intOf]; omega
    · rw [if_neg hle] at hst
      subst hst
      clear hqq
      go_wp2
      go_ret
      exact ⟨rfl, rfl⟩
end Go.Proofs.YtdajmekliodmcaaGreatDoor.W4
/- root of package wide: the bits behind the point of a root, found one by one, by whatever power it is handed. -/
namespace Go.Proofs.YtdajmekliodmcaaGreatDoor.W4
set_option linter.unusedSimpArgs false
open Go.RowKit
set_option linter.unusedVariables false
set_option maxRecDepth 100000 in
theorem len64_max (w : World) : Calls Tryz.prog 176 #[.int .u64 18446744073709551615] w fun e w' => e = .returned (.int .i64 64) ∧ w = w' := by
  go_enter Tryz.func176, Tryz.ntmps176
  go_wp2
  go_ret
  exact ⟨ret_int (by decide +kernel), rfl⟩
theorem or_bits (f n : Nat) (hf : f < 18446744073709551616) (hn : n < 64) : bits .or .u64 (f : Int) ((2 ^ n : Nat) : Int) = ((f ||| 2 ^ n : Nat) : Int) ∧ f ||| 2 ^ n < 18446744073709551616 := by
  have h2 : 2 ^ n < 18446744073709551616 := Nat.lt_of_lt_of_le (Nat.pow_lt_pow_right (by decide) hn) (by decide)
  exact ⟨bits_or_u64_nat f (2 ^ n) hf h2, Nat.or_lt_two_pow (n := 64) hf h2⟩
/-- The bit that stands when n bits are left. -/
def bitAt (n : Nat) : Nat := 2 ^ n / 2
theorem bitAt_succ (n : Nat) : bitAt (n + 1) = 2 ^ n := by unfold bitAt; rw [Nat.pow_succ]; omega
theorem bits_step (pw : Nat → Nat → Nat) (p w n f : Nat) : bitsTo pw p w (n + 1) f = bitsTo pw p w n (if pw w (f ||| 2 ^ n) < p then f ||| 2 ^ n else f) := rfl
theorem xor_max : bits .xor .u64 (18446744073709551615 : Int) 0 = 18446744073709551615 := by decide +kernel
def xAt (w : World) (g a b : Nat) : Prop := w.heap[g]? = some (.cells #[.int .u64 a, .int .u64 b] 158 (0, 0))
theorem xAt.c0 {w : World} {g a b : Nat} (h : xAt w g a b) : w.cell? ⟨g, 0, none⟩ = some (.int .u64 a) := by rw [cell_of_row w g 0 _ 158 (0, 0) h]; rfl
theorem xAt.c1 {w : World} {g a b : Nat} (h : xAt w g a b) : w.cell? ⟨g, 1, none⟩ = some (.int .u64 b) := by rw [cell_of_row w g 1 _ 158 (0, 0) h]; rfl
theorem xAt.free {w : World} {g a b : Nat} (h : xAt w g a b) (j : Nat) : w.frozen? ⟨g, j, none⟩ = false := by
  have h' : w.heap[g]? = some (.cells #[.int .u64 a, .int .u64 b] 158 (0, 0)) := h
  simp [World.frozen?, h']
theorem xAt.below {w w' : World} {B g a b : Nat} (h : xAt w g a b) (hb : Below B w w') (hB : g < B) : xAt w' g a b := by
  unfold xAt
  rw [hb.block g hB]; exact h
theorem xAt.lt {w : World} {g a b : Nat} (h : xAt w g a b) : g < w.heap.size := lt_of_block h
theorem xAt.set0 {w : World} {g a b : Nat} (h : xAt w g a b) (v : Nat) : xAt (w.setCell ⟨g, 0, none⟩ (.int .u64 v)) g v b := heap_setCell_same w g 0 _ 158 _ h
theorem xAt.set1 {w : World} {g a b : Nat} (h : xAt w g a b) (v : Nat) : xAt (w.setCell ⟨g, 1, none⟩ (.int .u64 v)) g a v := heap_setCell_same w g 1 _ 158 _ h
def cellN (w : World) (g : Nat) : Nat := (intOf ((w.cell? ⟨g, 0, none⟩).getD undef)).toNat
theorem cellN_x {w : World} {g a b : Nat} (h : xAt w g a b) : cellN w g = a := by unfold cellN; rw [h.c0]; simp [intOf]
set_option maxRecDepth 100000 in
set_option maxHeartbeats 2000000 in
theorem root_any (F : Nat) (pw : Nat → Nat → Nat) (EG : ∀ args w, (callFunc F args).run Tryz.prog w = .ok (.enter F args) w)
    (HPW : ∀ a f : Nat, a < 18446744073709551616 → f < 18446744073709551616 → ∀ w : World, Calls Tryz.prog F #[.agg #[.int .u64 a, .int .u64 f]] w fun e w' => e = .returned (.int .u64 (pw a f)) ∧ Below w.heap.size w w')
    (p : Nat) (hp : p < 18446744073709551616) (hok : wholeOk pw p = true) (w : World) :
    Calls Tryz.prog 153 #[.int .u64 p, .func (.func F) #[] #[]] w fun e w' => e = .returned (.int .u64 (rootN pw p)) ∧ Below w.heap.size w w' := by
  obtain ⟨wh, hwh⟩ : ∃ wh, Hid (wh = wholeN pw p) := ⟨_, Lib.hid rfl⟩
  obtain ⟨out, hout⟩ : ∃ out, Hid (out = rootN pw p) := ⟨_, Lib.hid rfl⟩
  have hbits : Hid (out = bitsTo pw p wh 64 0) := by unfold Hid; rw [hout.out, hwh.out]; unfold rootN; rw [force_eq]
  rw [← hout.out]
  have hw30 : wh < 30 := by
    have h := hok
    unfold wholeOk at h
    simp only [Bool.and_eq_true, decide_eq_true_eq] at h
    rw [hwh.out]; exact h.1.1
  have HW1 : Hid (∀ k, k < wh → pw (k + 1) 0 ≤ p) := by
    intro k hk
    have h := hok
    unfold wholeOk at h
    simp only [Bool.and_eq_true, decide_eq_true_eq] at h
    have h2 := List.all_eq_true.1 h.1.2 k (List.mem_range.2 (by rw [← hwh.out]; exact hk))
    simpa using h2
  have HW2 : Hid (p < pw (wh + 1) 0) := by
    have h := hok
    unfold wholeOk at h
    simp only [Bool.and_eq_true, decide_eq_true_eq] at h
    unfold Hid
    rw [hwh.out]; exact h.2
  have HP := Lib.hid HPW
  clear HPW hok hout
  go_enter Tryz.func153, Tryz.ntmps153
  go_wp2
  go_loopw [9] (fun _ wr => ∃ k : Nat, k ≤ wh ∧ xAt wr w.heap.size k 0 ∧ Below w.heap.size w wr) (fun _ wr => wh - cellN wr w.heap.size)
  case atStart => exact ⟨0, Nat.zero_le _, heap_alloc_new w _, (Below.refl _ w).alloc (Nat.le_refl _) _⟩
  case round =>
    obtain ⟨k, hk, hxa, hb⟩ := hrel
    have HX := Lib.hid hxa
    have HB := Lib.hid hb
    have c0 := hxa.c0
    have c1 := hxa.c1
    have hg := hxa.lt
    have hmr := Lib.hid (cellN_x hxa)
    clear hxa hb
    have hk30 : k ≤ 30 := by omega
    obtain ⟨v, hv⟩ : ∃ v, Hid (v = pw (k + 1) 0) := ⟨_, Lib.hid rfl⟩
    have HC := Lib.hid (HP.out (k + 1) 0 (by omega) (by omega))
    rw [← hv.out] at HC
    by_cases hlt : k < wh
    · have hle : v ≤ p := by rw [hv.out]; exact HW1.out k hlt
      clear hv
      go_wp2_with fail
      refine (HC.out _).mono ?_
      rintro e w2 ⟨rfl, hb2⟩
      have HX2 := Lib.hid (HX.out.below hb2 hg)
      have HB2 := Lib.hid (HB.out.trans (hb2.mono HB.out.size))
      have c02 := HX2.out.c0
      have f02 := HX2.out.free 0
      clear hb2 HX HB c0 c1
      have HX3 := Lib.hid (HX2.out.set0 (k + 1))
      have HB3 := Lib.hid (HB2.out.setCell (p := ⟨w.heap.size, 0, none⟩) (Nat.le_refl _) (.int .u64 ((k + 1 : Nat) : Int)))
      go_wp2
      go_roundw
      case rel => exact ⟨k + 1, by omega, HX3.out, HB3.out⟩
      case measure =>
        have hm : cellN (w2.setCell ⟨w.heap.size, 0, none⟩ (.int .u64 ((k : Int) + 1))) w.heap.size = k + 1 := cellN_x HX3.out
        rw [hm, hmr.out]
        omega
    · obtain rfl : k = wh := by omega
      have hle : ¬ v ≤ p := by have := HW2.out; rw [hv.out]; omega
      have hgt : p < v := by omega
      clear hv HW1 HW2
      go_wp2_with fail
      refine (HC.out _).mono ?_
      rintro e w2 ⟨rfl, hb2⟩
      have HX2 := Lib.hid (HX.out.below hb2 hg)
      have HB2 := Lib.hid (HB.out.trans (hb2.mono HB.out.size))
      clear hb2 HX HB c0 c1 hmr
      have hxm := xor_max
      go_wp2_with (go_at_call 176; refine (len64_max _).mono ?_; rintro e w' ⟨rfl, rfl⟩)
      have hx8 : bits BinOp.xor IntKind.u64 IntKind.u64.max (bits BinOp.xor IntKind.u64 IntKind.u64.max 0 / 2) = ((bitAt 64 : Nat) : Int) := by decide +kernel
      rw [hx8]
      clear hx8 hxm hle hgt HC
      go_loopw [6, 8] (fun fv bv wr => ∃ n f part : Nat, n ≤ 64 ∧ fv = .int .u64 f ∧ bv = .int .u64 (bitAt n) ∧ f < 18446744073709551616 ∧ Hid (bitsTo pw p k n f = out) ∧ xAt wr w.heap.size k part ∧ Below w.heap.size w wr) (fun _ bv _ => (intOf bv).toNat)
      case atStart => exact ⟨64, 0, 0, by omega, rfl, rfl, by omega, Lib.hid hbits.out.symm, HX2.out, HB2.out⟩
      case round =>
        clear HX2 HB2 hbits
        obtain ⟨n, f, part, hn, rfl, rfl, hf, hbt, hxa, hb⟩ := hrel
        have HX := Lib.hid hxa
        have HB := Lib.hid hb
        have hg := hxa.lt
        have f1 := hxa.free 1
        have c1 := hxa.c1
        clear hxa hb
        rcases Nat.eq_zero_or_pos n with rfl | hn0
        · have ho : f = out := hbt.out
          subst ho
          rw [show ((bitAt 0 : Nat) : Int) = (0 : Int) from rfl]
          clear hbt
          go_wp2
          go_ret
          exact ⟨rfl, HB.out⟩
        · obtain ⟨m, rfl⟩ : ∃ m, n = m + 1 := ⟨n - 1, by omega⟩
          obtain ⟨hor, hfb⟩ := or_bits f m hf (by omega)
          have hst := hbt.out
          rw [bits_step] at hst
          rw [bitAt_succ m]
          have hb0 : 0 < 2 ^ m := Nat.pos_of_ne_zero (by exact Nat.ne_of_gt (Nat.pow_pos (by decide)))
          have hhalf : ((2 ^ m : Nat) : Int) / 2 = ((bitAt m : Nat) : Int) := by unfold bitAt; omega
          have hdec : bitAt m < 2 ^ m := by unfold bitAt; omega
          have HDEC := Lib.hid hdec
          clear hbt hdec
          obtain ⟨fb, hfb0⟩ : ∃ fb, Hid (fb = f ||| 2 ^ m) := ⟨_, Lib.hid rfl⟩
          rw [← hfb0.out] at hor hfb hst
          generalize 2 ^ m = b at *
          have hbI : (0 : Int) < (b : Int) := by omega
          obtain ⟨v2, hv2⟩ : ∃ v2, Hid (v2 = pw k fb) := ⟨_, Lib.hid rfl⟩
          rw [← hv2.out] at hst
          have HC := Lib.hid (HP.out k fb (by omega) hfb)
          rw [← hv2.out] at HC
          clear hv2
          have hwi := wrap_id hfb
          have HOR := Lib.hid hor
          have HX3 := Lib.hid (HX.out.set1 fb)
          have HB3 := Lib.hid (HB.out.setCell (p := ⟨w.heap.size, 1, none⟩) (Nat.le_refl _) (.int .u64 (fb : Int)))
          obtain ⟨w3, hw3⟩ : ∃ w3, w3 = wr.setCell ⟨w.heap.size, 1, none⟩ (.int .u64 (fb : Int)) := ⟨_, rfl⟩
          rw [← hw3] at HX3 HB3
          have hg3 := HX3.out.lt
          have hseg : ∀ j v, [Value.int .u64 (k : Int), Value.int .u64 (fb : Int)][j]? = some v → w3.cell? ⟨w.heap.size, 0 + j, none⟩ = some v := by
            intro j v hv
            rw [cell_of_row w3 w.heap.size (0 + j) _ 158 (0, 0) HX3.out, Nat.zero_add]
            simpa using hv
          have HSEG := Lib.hid hseg
          clear hseg
          go_upto_region 10 with (fail)
          rw [← hw3]
          clear hw3 c1 f1 HX HB hor hwi
          go_wp2_with (refine wpList_load_seg rfl 158 (.tmp 5) rfl w.heap.size 0 rfl [.int .u64 (k : Int), .int .u64 (fb : Int)] _ HSEG.out Tryz.underlying158 rfl (by kernel_rfl) ?_)
          refine (HC.out _).mono ?_
          rintro e w4 ⟨rfl, hb4⟩
          have HX4 := Lib.hid (HX3.out.below hb4 hg3)
          have HB4 := Lib.hid (HB3.out.trans (hb4.mono HB3.out.size))
          clear hb4 HSEG HC
          obtain ⟨hor2, -⟩ : bits .or .u64 (f : Int) (b : Int) = (fb : Int) ∧ True := ⟨HOR.out, trivial⟩
          by_cases hlt2 : v2 < p
          · rw [if_pos hlt2] at hst
            have HST := Lib.hid hst
            clear hst
            go_wp2
            go_roundw
            case rel => exact ⟨m, fb, fb, by omega, rfl, rfl, hfb, HST, HX4.out, HB4.out⟩
            case measure => have := HDEC.out; simp [intOf]; omega
          · rw [if_neg hlt2] at hst
            have HST := Lib.hid hst
            clear hst
            go_wp2
            go_roundw
            case rel => exact ⟨m, f, fb, by omega, rfl, rfl, hf, HST, HX4.out, HB4.out⟩
            case measure => have := HDEC.out; simp [intOf]; omega
end Go.Proofs.YtdajmekliodmcaaGreatDoor.W4
/- sum and Less of the document's package, over numbers of four words of 64 bits. -/
namespace Go.Proofs.YtdajmekliodmcaaGreatDoor.W4
set_option linter.unusedSimpArgs false
open Go.RowKit
set_option linter.unusedVariables false
/-- Block g is just these cells. -/
def RowL (w : World) (g : Nat) (t : TypeId) (cs : List Value) : Prop := w.heap[g]? = some (.cells cs.toArray t (0, 0))
theorem RowL.seg {w : World} {g : Nat} {t : TypeId} {cs : List Value} (h : RowL w g t cs) : ∀ j v, cs[j]? = some v → w.cell? ⟨g, 0 + j, none⟩ = some v := by
  intro j v hv
  rw [cell_of_row _ _ _ _ _ _ h, Nat.zero_add, List.getElem?_toArray, hv]
theorem RowL.lt {w : World} {g : Nat} {t : TypeId} {cs : List Value} (h : RowL w g t cs) : g < w.heap.size := lt_of_block h
theorem RowL.new (w : World) (t : TypeId) (cs : List Value) : RowL (w.alloc (.cells cs.toArray t)) w.heap.size t cs := heap_alloc_new w _
theorem RowL.alloc {w : World} {g : Nat} {t : TypeId} {cs : List Value} (h : RowL w g t cs) (o : Obj) : RowL (w.alloc o) g t cs := by
  unfold RowL; rw [Below.heap_alloc _ _ _ h.lt]; exact h
theorem RowL.below {w w' : World} {g : Nat} {t : TypeId} {cs : List Value} (h : RowL w g t cs) (hb : Below w.heap.size w w') : RowL w' g t cs := by
  unfold RowL; rw [hb.block g h.lt]; exact h
theorem RowL.setRow {w : World} {g : Nat} {t : TypeId} {cs : List Value} (h : RowL w g t cs) (cs2 : List Value) : RowL (w.setRow g cs2.toArray) g t cs2 := setRow_heap _ _ _ _ _ _ h
theorem RowL.setRow_ne {w : World} {g k : Nat} {t : TypeId} {cs : List Value} (h : RowL w g t cs) (hk : g ≠ k) (cs2 : Array Value) : RowL (w.setRow k cs2) g t cs := by
  unfold RowL; rw [setRow_other _ _ _ _ hk]; exact h
end Go.Proofs.YtdajmekliodmcaaGreatDoor.W4
/- up of the document's package: a number of four words moved up by some bits. -/
namespace Go.Proofs.YtdajmekliodmcaaGreatDoor.W4
set_option linter.unusedSimpArgs false
open Go.RowKit
set_option linter.unusedVariables false
end Go.Proofs.YtdajmekliodmcaaGreatDoor.W4
