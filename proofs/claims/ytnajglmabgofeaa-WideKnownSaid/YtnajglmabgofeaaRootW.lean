/- root of the document's package: roots of numbers of four words, bit by bit. -/
import Derived.Test.YtnajglmabgofeaaUp
import Derived.Test.YtnajglmabgofeaaHeld
import Derived.Deep.CutBlock
import Derived.Test.YtnajglmabgofeaaRound
import Derived.Deep.DeepCutAuto
namespace Go.Proofs.Ytnajglmabgofeaa
open Go.RowKit
set_option linter.unusedVariables false
def l4 (x : N4) : List Value := rowOf .u64 4 (at4 x)
theorem l4_size (x : N4) : (Try.prog.info? 40).map (·.size) = some (l4 x).length := size47 _
theorem l4_one (x : N4) : ∀ v ∈ l4 x, v.oneCell' = true := rowOf_one _ _ _
theorem l4_len (x : N4) : (l4 x).length = 4 := rowOf_length _ _ _
theorem l4_fit (x y : N4) : 0 + (l4 x).length ≤ (l4 y).toArray.size := by rw [l4_len, List.size_toArray, l4_len]; exact Nat.le_refl _
theorem l4_splice (x y : N4) : splice (l4 y).toArray 0 (l4 x) = (l4 x).toArray := splice_all _ _ (by rw [l4_len, List.size_toArray, l4_len])
def o4 : N4 := ⟨0, 0, 0, 0⟩
theorem zero47' (w : World) : (zeroValue 40).run Try.prog w = .ok (.agg (l4 o4).toArray) w := by kernel_rfl
theorem build_one (w : World) : (Instr.build 40 #[(0, .int .u64 1)]).run Try.prog w = .ok (.agg (l4 one4).toArray) w := by kernel_rfl
theorem exec_addk {ρ : Operand → Value} {o : Oper} (x : Operand) (ho : o.op = .binOp .add 3 x (.const (.int .i64 1)) 3) (hc : ρ (.const (.int .i64 1)) = .int .i64 1) (k : Nat) (hk : k < 1000) (hx : ρ x = .int .i64 k) (w : World) : (execOp ρ o).run Try.prog w = .ok (.value (.int .i64 ((k : Int) + 1))) w := by
  have h0 : IntKind.i64.wrap ((k : Int) + 1) = (k : Int) + 1 := IntWalk.i64_in _ (by omega)
  unfold execOp
  simp only [ho, hx, hc]
  go_simp
theorem exec_mul2 {ρ : Operand → Value} {o : Oper} (y : Operand) (ho : o.op = .binOp .mul 3 (.const (.int .i64 2)) y 3) (hc : ρ (.const (.int .i64 2)) = .int .i64 2) (k : Nat) (hk : k < 1000) (hy : ρ y = .int .i64 k) (w : World) : (execOp ρ o).run Try.prog w = .ok (.value (.int .i64 (2 * (k : Int)))) w := by
  have h0 : IntKind.i64.wrap (2 * (k : Int)) = 2 * (k : Int) := IntWalk.i64_in _ (by omega)
  unfold execOp
  simp only [ho, hy, hc]
  go_simp
theorem exec_mul3 {ρ : Operand → Value} {o : Oper} (y : Operand) (ho : o.op = .binOp .mul 3 (.const (.int .i64 3)) y 3) (hc : ρ (.const (.int .i64 3)) = .int .i64 3) (k : Nat) (hk : k < 1000) (hy : ρ y = .int .i64 k) (w : World) : (execOp ρ o).run Try.prog w = .ok (.value (.int .i64 (3 * (k : Int)))) w := by
  have h0 : IntKind.i64.wrap (3 * (k : Int)) = 3 * (k : Int) := IntWalk.i64_in _ (by omega)
  unfold execOp
  simp only [ho, hy, hc]
  go_simp
theorem up_at (x : N4) (hx : x.ok) (n : Nat) (m : Int) (hm : m = (n : Int)) (hn : n < 256) (w : World) : Calls Try.prog 29 #[.agg (l4 x).toArray, .int .i64 m] w fun e w' => e = .returned (.agg (l4 (upL x n)).toArray) ∧ Below w.heap.size w w' := by
  subst hm
  exact up_any x hx n hn w
theorem exec_extract0 {ρ : Operand → Value} {o : Oper} (x : Operand) (ho : o.op = .extract x 0) (u v : Value) (hx : ρ x = .tuple #[u, v]) (w : World) : (execOp ρ o).run Try.prog w = .ok (.value u) w := by
  unfold execOp
  simp [ho, hx, go_sem]
theorem exec_extract1 {ρ : Operand → Value} {o : Oper} (x : Operand) (ho : o.op = .extract x 1) (u v : Value) (hx : ρ x = .tuple #[u, v]) (w : World) : (execOp ρ o).run Try.prog w = .ok (.value v) w := by
  unfold execOp
  simp [ho, hx, go_sem]
/-- The function's variables: the number, the result, the root so far with its square and its cube, one. -/
def Six (B : Nat) (w0 w : World) (ga gr gx gs gc g1 : Nat) (a : N4) (r : R3) : Prop :=
  RowL w ga 40 (l4 a) ∧ RowL w gr 40 (l4 o4) ∧ RowL w gx 40 (l4 r.x) ∧ RowL w gs 40 (l4 r.s) ∧ RowL w gc 40 (l4 r.c) ∧ RowL w g1 40 (l4 one4) ∧ Below B w0 w
theorem Six.below {B : Nat} {w0 w w' : World} {ga gr gx gs gc g1 : Nat} {a : N4} {r : R3} (h : Six B w0 w ga gr gx gs gc g1 a r) (hB : B ≤ w.heap.size) (hb : Below w.heap.size w w') : Six B w0 w' ga gr gx gs gc g1 a r :=
  ⟨h.1.below hb, h.2.1.below hb, h.2.2.1.below hb, h.2.2.2.1.below hb, h.2.2.2.2.1.below hb, h.2.2.2.2.2.1.below hb, h.2.2.2.2.2.2.trans (hb.mono hB)⟩
theorem Six.setRow {B : Nat} {w0 w : World} {ga gr gx gs gc g1 : Nat} {a : N4} {r : R3} (h : Six B w0 w ga gr gx gs gc g1 a r) (g : Nat) (cs : Array Value) (hB : B ≤ g) (h0 : ga ≠ g) (h1 : gr ≠ g) (h2 : gx ≠ g) (h3 : gs ≠ g) (h4 : gc ≠ g) (h5 : g1 ≠ g) : Six B w0 (w.setRow g cs) ga gr gx gs gc g1 a r :=
  ⟨h.1.setRow_ne h0 _, h.2.1.setRow_ne h1 _, h.2.2.1.setRow_ne h2 _, h.2.2.2.1.setRow_ne h3 _, h.2.2.2.2.1.setRow_ne h4 _, h.2.2.2.2.2.1.setRow_ne h5 _, h.2.2.2.2.2.2.trans ⟨rfl, rfl, rfl, by simp, fun k hk => setRow_other _ _ _ _ (by omega)⟩⟩
def cIt (r : R3) (k : Nat) : Nat → N4
  | 0 => r.c
  | q + 1 => cuStep r k (cIt r k q)
theorem cIt_ok (r : R3) (k : Nat) (hc : r.c.ok) : ∀ q, (cIt r k q).ok
  | 0 => hc
  | q + 1 => addL_ok _ _
theorem one_ok : one4.ok := by unfold N4.ok one4; simp
theorem RowL.cellset {w : World} {g : Nat} {t : TypeId} {cs : List Value} (h : RowL w g t cs) (k j : Nat) (v : Value) (hk : g ≠ k) : RowL (w.setCell ⟨k, j, none⟩ v) g t cs := by
  unfold RowL
  rw [heap_setCell_other _ _ _ _ (show g ≠ (⟨k, j, none⟩ : Addr).block from hk)]
  exact h
theorem Six.setX {B : Nat} {w0 w : World} {ga gr gx gs gc g1 : Nat} {a : N4} {r : R3} (h : Six B w0 w ga gr gx gs gc g1 a r) (q v : Nat) (x' : N4) (hx : ∀ j, j < 4 → upd (at4 r.x) q v j = at4 x' j) (hB : B ≤ gx) (h0 : ga ≠ gx) (h1 : gr ≠ gx) (h3 : gs ≠ gx) (h4 : gc ≠ gx) (h5 : g1 ≠ gx) :
    Six B w0 (w.setCell ⟨gx, q, none⟩ (.int .u64 v)) ga gr gx gs gc g1 a ⟨x', r.s, r.c⟩ := by
  refine ⟨h.1.cellset _ _ _ h0, h.2.1.cellset _ _ _ h1, ?_, h.2.2.2.1.cellset _ _ _ h3, h.2.2.2.2.1.cellset _ _ _ h4, h.2.2.2.2.2.1.cellset _ _ _ h5, h.2.2.2.2.2.2.setCell (p := ⟨gx, q, none⟩) hB _⟩
  have h7 : Row w gx 40 .u64 4 (at4 r.x) := h.2.2.1
  exact Row.ext (Row.set (w := w) h7 q v) hx
theorem Six.setS {B : Nat} {w0 w : World} {ga gr gx gs gc g1 : Nat} {a : N4} {r : R3} (h : Six B w0 w ga gr gx gs gc g1 a r) (s : N4) (hB : B ≤ gs) (h0 : ga ≠ gs) (h1 : gr ≠ gs) (h2 : gx ≠ gs) (h4 : gc ≠ gs) (h5 : g1 ≠ gs) : Six B w0 (w.setRow gs (l4 s).toArray) ga gr gx gs gc g1 a ⟨r.x, s, r.c⟩ :=
  ⟨h.1.setRow_ne h0 _, h.2.1.setRow_ne h1 _, h.2.2.1.setRow_ne h2 _, h.2.2.2.1.setRow _, h.2.2.2.2.1.setRow_ne h4 _, h.2.2.2.2.2.1.setRow_ne h5 _, h.2.2.2.2.2.2.trans ⟨rfl, rfl, rfl, by simp, fun k hk => setRow_other _ _ _ _ (by omega)⟩⟩
theorem Six.setC {B : Nat} {w0 w : World} {ga gr gx gs gc g1 : Nat} {a : N4} {r : R3} (h : Six B w0 w ga gr gx gs gc g1 a r) (c : N4) (hB : B ≤ gc) (h0 : ga ≠ gc) (h1 : gr ≠ gc) (h2 : gx ≠ gc) (h3 : gs ≠ gc) (h5 : g1 ≠ gc) : Six B w0 (w.setRow gc (l4 c).toArray) ga gr gx gs gc g1 a ⟨r.x, r.s, c⟩ :=
  ⟨h.1.setRow_ne h0 _, h.2.1.setRow_ne h1 _, h.2.2.1.setRow_ne h2 _, h.2.2.2.1.setRow_ne h3 _, h.2.2.2.2.1.setRow _, h.2.2.2.2.2.1.setRow_ne h5 _, h.2.2.2.2.2.2.trans ⟨rfl, rfl, rfl, by simp, fun k hk => setRow_other _ _ _ _ (by omega)⟩⟩
theorem setBit_upd (x : N4) (k : Nat) (hk : k < 128) : ∀ j, j < 4 → upd (at4 x) (k / 64) (at4 x (k / 64) ||| 2 ^ (k % 64)) j = at4 (setBit x k) j := by
  intro j hj
  unfold setBit
  rcases (show k / 64 = 0 ∨ k / 64 = 1 by omega) with e | e
  · rw [e, if_pos rfl]
    rcases (show j = 0 ∨ j = 1 ∨ j = 2 ∨ j = 3 by omega) with rfl | rfl | rfl | rfl <;> rfl
  · rw [e, if_neg (by decide)]
    rcases (show j = 0 ∨ j = 1 ∨ j = 2 ∨ j = 3 by omega) with rfl | rfl | rfl | rfl <;> rfl
theorem two64 {b : Nat} (hb : b < 64) : 2 ^ b < 18446744073709551616 := Nat.lt_of_lt_of_le (Nat.pow_lt_pow_right (by decide) hb) (by decide)
theorem setBit_ok (x : N4) (hx : x.ok) (k : Nat) : (setBit x k).ok := by
  obtain ⟨h1, h2, h3, h4⟩ := hx
  have hp := two64 (Nat.mod_lt k (show 0 < 64 by decide))
  unfold setBit
  split
  · exact ⟨Nat.or_lt_two_pow (n := 64) h1 hp, h2, h3, h4⟩
  · exact ⟨h1, Nat.or_lt_two_pow (n := 64) h2 hp, h3, h4⟩
theorem shl_one (b : Nat) (hb : b < 64) : IntKind.u64.wrap ((1 : Int) * 2 ^ b) = ((2 ^ b : Nat) : Int) := by
  have h := wrap64_shl 1 b
  rw [Nat.one_mul, Nat.mod_eq_of_lt (two64 hb)] at h
  exact h
theorem or_two (v b : Nat) (hv : v < 18446744073709551616) (hb : b < 64) : bits .or .u64 (v : Int) ((2 ^ b : Nat) : Int) = ((v ||| 2 ^ b : Nat) : Int) := bits_or_u64_nat v (2 ^ b) hv (two64 hb)
end Go.Proofs.Ytnajglmabgofeaa
