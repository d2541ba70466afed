/- The end of behind of package wide: the eight are each more by what came of them. No condition but that the numbers have 64 bits. -/
import Derived.Test.YtnajglmabgofeaaWords
import Derived.Deep.DeepCutAuto
import Derived.Deep.CutBlock
namespace Go.Proofs.Ytnajglmabgofeaa
open Go.RowKit
set_option linter.unusedVariables false

theorem quiet_add {P : Program} {f : FuncId} {args : Array Value} {w : World} {a n : Nat} {v : Value}
    (h : Calls P f args (w.drewN (a + n)) fun e w' => e = .returned v ∧ ∃ m, w' = (w.drewN (a + n)).drewN m) :
    Calls P f args (w.drewN (a + n)) fun e w'' => e = .returned v ∧ ∃ m, w'' = w.drewN (a + m) :=
  h.mono fun _ _ ⟨he, m, hm⟩ => ⟨he, n + m, by rw [hm, World.drewN_drewN, Nat.add_assoc]⟩
theorem quiet_add_left {P : Program} {f : FuncId} {args : Array Value} {w : World} {a n : Nat} {v : Value}
    (h : Calls P f args (w.drewN (a + n)) fun e w' => e = .returned v ∧ w.drewN (a + n) = w') :
    Calls P f args (w.drewN (a + n)) fun e w'' => e = .returned v ∧ ∃ m, w'' = w.drewN (a + m) :=
  h.mono fun _ _ ⟨he, hm⟩ => ⟨he, n, hm.symm⟩
theorem quiet_left {P : Program} {f : FuncId} {args : Array Value} {w : World} {n : Nat} {v : Value}
    (h : Calls P f args (w.drewN n) fun e w' => e = .returned v ∧ w.drewN n = w') : Calls P f args (w.drewN n) fun e w'' => e = .returned v ∧ ∃ m, w'' = w.drewN m :=
  h.mono fun _ _ ⟨he, hm⟩ => ⟨he, n, hm.symm⟩

def cells (s : St) : List Value := [.int .u64 s.a, .int .u64 s.b, .int .u64 s.c, .int .u64 s.d, .int .u64 s.e, .int .u64 s.f, .int .u64 s.g, .int .u64 s.h]
theorem cells_size (s : St) : (Try.prog.info? 32).map (·.size) = some (cells s).length := by rw [show (cells s).length = 8 from rfl]; kernel_rfl
theorem cells_one (s : St) : ∀ v ∈ cells s, v.oneCell' = true := by
  intro v hv
  simp [cells] at hv
  rcases hv with rfl | rfl | rfl | rfl | rfl | rfl | rfl | rfl <;> rfl
def s0 : St := ⟨0, 0, 0, 0, 0, 0, 0, 0⟩
theorem zero32 (w : World) : (zeroValue 32).run Try.prog w = .ok (.agg (cells s0).toArray) w := by kernel_rfl

def St.at (s : St) : Nat → Nat
  | 0 => s.a
  | 1 => s.b
  | 2 => s.c
  | 3 => s.d
  | 4 => s.e
  | 5 => s.f
  | 6 => s.g
  | _ => s.h
theorem cells_row (s : St) : cells s = rowOf .u64 8 s.at := rfl
theorem St.at_lt {s : St} (h : s.ok) (j : Nat) : s.at j < 18446744073709551616 := by
  obtain ⟨h1, h2, h3, h4, h5, h6, h7, h8⟩ := h
  unfold St.at
  split <;> assumption
theorem idx32 (t : St) (i : Nat) (hi : i < 8) (w : World) : (Instr.index 32 (.agg #[.int .u64 t.a, .int .u64 t.b, .int .u64 t.c, .int .u64 t.d, .int .u64 t.e, .int .u64 t.f, .int .u64 t.g, .int .u64 t.h]) (.int .i64 i)).run Try.prog w = .ok (.int .u64 (t.at i)) w := by
  rcases (show i = 0 ∨ i = 1 ∨ i = 2 ∨ i = 3 ∨ i = 4 ∨ i = 5 ∨ i = 6 ∨ i = 7 by omega) with rfl | rfl | rfl | rfl | rfl | rfl | rfl | rfl <;> kernel_rfl
/-- What stands in the eight once i of them are more. -/
def PTo (s t : St) (i j : Nat) : Nat := if j < i then add (s.at j) (t.at j) else s.at j
theorem PTo_step (s t : St) (i : Nat) : ∀ j, j < 8 → upd (PTo s t i) i (add (s.at i) (t.at i)) j = PTo s t (i + 1) j := by
  intro j _
  unfold upd PTo
  by_cases e : j = i
  · subst e; rw [if_pos rfl, if_pos (by omega)]
  · rw [if_neg e]
    by_cases h : j < i
    · rw [if_pos h, if_pos (by omega)]
    · rw [if_neg h, if_neg (by omega)]
theorem PTo_all (s t : St) : rowOf .u64 8 (PTo s t 8) = cells (plus s t) := rfl
theorem wadd (a b : Nat) : IntKind.u64.wrap ((a : Int) + (b : Int)) = ((add a b : Nat) : Int) := wrapM (a + b)
theorem u_int (t : St) (ht : t.ok) (k w : Nat) : IntKind.u64.wrap (IntKind.u64.wrap (IntKind.u64.wrap (IntKind.u64.wrap ((t.h : Int) + bits BinOp.xor IntKind.u64 (bits BinOp.xor IntKind.u64 ((rorN t.e 14 : Nat) : Int) ((rorN t.e 18 : Nat) : Int)) ((rorN t.e 41 : Nat) : Int)) +
    bits BinOp.xor IntKind.u64 (bits BinOp.and IntKind.u64 (t.e : Int) (t.f : Int)) (bits BinOp.and IntKind.u64 (bits BinOp.xor IntKind.u64 (if IntKind.u64.signed = true then -1 else IntKind.u64.max) (t.e : Int)) (t.g : Int))) + (k : Int)) + (w : Int)) = ((uN t k w : Nat) : Int) := by
  obtain ⟨h1, h2, h3, h4, h5, h6, h7, h8⟩ := ht
  have e1 := u64_xor_nat _ _ (rorN_lt 14 h5) (rorN_lt 18 h5)
  have e2 := u64_xor_nat _ _ (xor_lt (rorN_lt 14 h5) (rorN_lt 18 h5)) (rorN_lt 41 h5)
  have e3 := bits_and_u64_nat t.e t.f h5 h6
  have e4 : bits BinOp.xor IntKind.u64 (if IntKind.u64.signed = true then -1 else IntKind.u64.max) (t.e : Int) = ((18446744073709551615 ^^^ t.e : Nat) : Int) := u64_xor_nat 18446744073709551615 t.e (by decide) h5
  have hx : 18446744073709551615 ^^^ t.e < 18446744073709551616 := xor_lt (by decide) h5
  have e5 := bits_and_u64_nat (18446744073709551615 ^^^ t.e) t.g hx h7
  have e6 := u64_xor_nat (t.e &&& t.f) ((18446744073709551615 ^^^ t.e) &&& t.g) (and_lt h5) (and_lt hx)
  rw [e1, e2, e3, e4, e5, e6, wadd, wadd, wadd, wadd]
  rfl
theorem v_int (t : St) (ht : t.ok) : IntKind.u64.wrap (bits BinOp.xor IntKind.u64 (bits BinOp.xor IntKind.u64 ((rorN t.a 28 : Nat) : Int) ((rorN t.a 34 : Nat) : Int)) ((rorN t.a 39 : Nat) : Int) +
    bits BinOp.xor IntKind.u64 (bits BinOp.xor IntKind.u64 (bits BinOp.and IntKind.u64 (t.a : Int) (t.b : Int)) (bits BinOp.and IntKind.u64 (t.a : Int) (t.c : Int))) (bits BinOp.and IntKind.u64 (t.b : Int) (t.c : Int))) = ((vN t : Nat) : Int) := by
  obtain ⟨h1, h2, h3, h4, h5, h6, h7, h8⟩ := ht
  have e1 := u64_xor_nat _ _ (rorN_lt 28 h1) (rorN_lt 34 h1)
  have e2 := u64_xor_nat _ _ (xor_lt (rorN_lt 28 h1) (rorN_lt 34 h1)) (rorN_lt 39 h1)
  have e3 := bits_and_u64_nat t.a t.b h1 h2
  have e4 := bits_and_u64_nat t.a t.c h1 h3
  have e5 := bits_and_u64_nat t.b t.c h2 h3
  have e6 := u64_xor_nat (t.a &&& t.b) (t.a &&& t.c) (and_lt h1) (and_lt h1)
  have e7 := u64_xor_nat ((t.a &&& t.b) ^^^ (t.a &&& t.c)) (t.b &&& t.c) (xor_lt (and_lt h1) (and_lt h1)) (and_lt h2)
  rw [e1, e2, e3, e4, e5, e6, e7, wadd]
  rfl
/-- The loops of a code, the outermost ones, in order. -/
def loopsOf : Code → List Code
  | .loop c => [c]
  | .seq a b => loopsOf a ++ loopsOf b
  | .block _ c => loopsOf c
  | .scope c => loopsOf c
  | .cond _ a b => loopsOf a ++ loopsOf b
  | _ => []
end Go.Proofs.Ytnajglmabgofeaa
