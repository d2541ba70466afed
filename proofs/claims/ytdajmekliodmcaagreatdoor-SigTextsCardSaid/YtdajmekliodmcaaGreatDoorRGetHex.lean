/- GetHex of the document: what letters say, if anything. No condition but that there are up to a thousand letters. -/
import Derived.Test.YtdajmekliodmcaaGreatDoorRHex
import Derived.Shelf.Abstract
namespace Go.Proofs.YtdajmekliodmcaaGreatDoor.R
open Go.RowKit Go.Shelf
set_option linter.unusedVariables false
set_option linter.unusedSimpArgs false
theorem enters29 : ∀ args w, (callFunc 54 args).run Tryz.prog w = .ok (.enter 54 args) w := enters_of Tryz.func54 (by kernel_rfl) rfl
theorem bcell {W w1 : World} (hb : Below W.heap.size W w1) : (∀ b o, b < W.heap.size → w1.cell? ⟨b, o, none⟩ = W.cell? ⟨b, o, none⟩) := fun b o hlt => hb.cell hlt
/-- A row of bytes of the call's own as a string, now and later. -/
theorem own_str {wr : World} {B : Nat} {v : Value} {n : Nat} {l : List UInt8} (hown : wr.ownsRow B 5 1 v n (bytesV l)) (h0 : n = 0 → v = .slice none 0 0) :
    ∃ ad cap, v = .slice ad n cap ∧ ∀ W, Below wr.heap.size wr W → (Go.convert 33 9 (.slice ad n cap)).run Tryz.prog W = .ok (.string ⟨l.toArray⟩) W := by
  have hl : l.length = n := by have := hown.1; rw [bytesV_length] at this; omega
  by_cases hn : n = 0
  · subst hn
    have : l = [] := List.eq_nil_of_length_eq_zero hl
    subst this
    exact ⟨none, 0, h0 rfl, fun W _ => conv_nil W⟩
  · rcases hown.2 with ⟨_, h0⟩ | ⟨g, cap, cur, rfl, hg2⟩
    · exact absurd h0 hn
    · subst hl
      refine ⟨some ⟨g, 0, none⟩, cap, rfl, fun W hb => run_convert_bytes_back W 33 9 5 ⟨g, 0, none⟩ cap l Tryz.underlying33 Tryz.underlying5 Tryz.underlying9 (fun j hj => ?_)⟩
      have hc := hown.cellAt j (by omega)
      have hlt : g < wr.heap.size := lt_of_block hg2.2.1
      rw [addr_add, Nat.zero_add, bcell hb _ _ hlt, hc]
      unfold bytesV
      rw [List.getElem?_map, List.getElem?_eq_getElem hj]
      rfl
/-- Bytes, or none, in memory. -/
def saidV (S : ByteArray) (b : Bool) : Array Value := [Value.string S, Value.bool b].toArray
def said (o : Option (List UInt8)) : Array Value := match o with
  | some l => saidV ⟨l.toArray⟩ true
  | none => saidV ⟨#[]⟩ false
theorem size27 (S : ByteArray) (b : Bool) : (Tryz.prog.info? 26).map (·.size) = some [Value.string S, Value.bool b].length := by kernel_rfl
theorem saidOne (S : ByteArray) (b : Bool) : ∀ v ∈ [Value.string S, Value.bool b], v.oneCell' = true := by
  intro v hv
  simp at hv
  rcases hv with rfl | rfl <;> rfl
theorem zero27 (w : World) : (zeroValue 26).run Tryz.prog w = .ok (.agg (saidV ⟨#[]⟩ false)) w := by kernel_rfl
theorem load27 {W : World} {g : Nat} (S : ByteArray) (b : Bool) {t : TypeId} (hg : W.heap[g]? = some (.cells (saidV S b) t (0, 0))) : (loadVar 26 ⟨g, 0, none⟩).run Tryz.prog W = .ok (.agg (saidV S b)) W :=
  run_loadVar_seg W 26 g 0 [.string S, .bool b] _ (fun j v hv => by rw [Nat.zero_add, cell_of_row W g j _ t (0, 0) hg, saidV, List.getElem?_toArray, hv]) Tryz.underlying26 rfl (size27 S b)
theorem exec_store27 {ρ : Operand → Value} {o : Oper} (w : World) (x y : Operand) (ho : o.op = .store 26 x y) (g : Nat) (hx : ρ x = .pointer (some ⟨g, 0, none⟩)) (S : ByteArray) (b : Bool) (hy : ρ y = .agg (saidV S b)) (cur : Array Value) (t : TypeId)
    (hg : w.heap[g]? = some (.cells cur t (0, 0))) (h8 : cur.size = 2) : (execOp ρ o).run Tryz.prog w = .ok .skip (w.setRow g (saidV S b)) := by
  have h := exec_store_seg (P := Tryz.prog) (ρ := ρ) (o := o) w 26 x y ho g 0 hx [.string S, .bool b] hy cur t hg (by simp; omega) (saidOne S b) (size27 S b)
  rwa [splice_all _ _ (by simp; exact h8)] at h
theorem build27_0 (w : World) : (Instr.build 26 #[]).run Tryz.prog w = .ok (.agg (saidV ⟨#[]⟩ false)) w := by kernel_rfl
theorem build27 (S : ByteArray) (b : Bool) (w : World) : (Instr.build 26 #[(0, .string S), (1, .bool b)]).run Tryz.prog w = .ok (.agg (saidV S b)) w := by kernel_rfl
theorem exec_build2 {ρ : Operand → Value} {o : Oper} (w : World) (t : TypeId) (k k2 : Nat) (x x2 : Operand) (ho : o.op = .build t #[(k, x), (k2, x2)]) (u u2 : Value) (hx : ρ x = u) (hx2 : ρ x2 = u2) (v : Value)
    (hrun : (Instr.build t #[(k, u), (k2, u2)]).run Tryz.prog w = .ok v w) : (execOp ρ o).run Tryz.prog w = .ok (.value v) w := by
  subst hx hx2
  unfold execOp
  simp [ho, hrun]
theorem exec_build0g {ρ : Operand → Value} {o : Oper} {t : TypeId} (ho : o.op = .build t #[]) (v : Value) {w : World} (hrun : (Instr.build t #[]).run Tryz.prog w = .ok v w) (w2 : World) (hw : w2 = w := by rfl) : (execOp ρ o).run Tryz.prog w2 = .ok (.value v) w2 := by
  subst hw
  unfold execOp
  simp [ho, hrun]
theorem exec_index_str {ρ : Operand → Value} {o : Oper} (x y : Operand) (ho : o.op = .index 9 x y) (s : ByteArray) (i : Nat) (hi : i < s.size) (hx : ρ x = .string s) (hy : ρ y = .int .i64 (i : Int)) (w : World) : (execOp ρ o).run Tryz.prog w = .ok (.value (.int .u8 (s[i].toNat : Int))) w := by
  unfold execOp
  rw [ho]
  simp only [hx, hy]
  go_simp
theorem str_ne {V s : ByteArray} (he : V ≠ s) : (V.toList == s.toList) = false := by
  simp only [beq_eq_false_iff_ne, ne_eq]
  intro h
  apply he
  rw [ByteArray.toList_eq, ByteArray.toList_eq] at h
  exact ByteArray.ext (Array.toList_inj.1 h)
theorem str_eq {V s : ByteArray} (he : V = s) : (V.toList == s.toList) = true := by rw [he]; simp
theorem exec_slice1 {ρ : Operand → Value} {o : Oper} (x : Operand) (ho : o.op = .buildSlice 33 1 #[(0, x)]) (b : Nat) (hx : ρ x = .int .u8 (b : Int)) (w : World) :
    (execOp ρ o).run Tryz.prog w = .ok (.value (.slice (some ⟨w.heap.size, 0, none⟩) 1 1)) (w.alloc (.cells #[.int .u8 (b : Int)] 5)) := by
  unfold execOp
  simp only [ho]
  have h : ∀ v, v = Value.int .u8 (b : Int) → (Instr.buildSlice 33 1 #[(0, v)]).run Tryz.prog w = .ok (.slice (some ⟨w.heap.size, 0, none⟩) 1 1) (w.alloc (.cells #[.int .u8 (b : Int)] 5)) := by
    rintro v rfl
    kernel_rfl
  simp [h _ hx]
theorem exec_conv35 {ρ : Operand → Value} {o : Oper} (x : Operand) (ho : o.op = .convert 3 5 x) (a : Int) (b : Nat) (hx : ρ x = .int .i64 a) (hb : IntKind.u8.wrap a = (b : Int)) (w : World) : (execOp ρ o).run Tryz.prog w = .ok (.value (.int .u8 (b : Int))) w := by
  unfold execOp
  rw [ho]
  simp only [hx]
  go_simp
end Go.Proofs.YtdajmekliodmcaaGreatDoor.R
