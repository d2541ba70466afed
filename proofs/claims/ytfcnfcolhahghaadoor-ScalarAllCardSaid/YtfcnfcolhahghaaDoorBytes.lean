/- The bytes of the numbers (told), and New, of package sha. No condition but that the numbers have 32 bits. -/
import Derived.Test.YtfcnfcolhahghaaDoorMem
import Derived.Deep.DeepCutAuto
import Derived.Deep.CutBlock
namespace Go.Proofs.YtfcnfcolhahghaaDoor
open Go.RowKit
set_option linter.unusedVariables false
/-- Bytes as cells. -/
def bytesV (l : List UInt8) : List Value := l.map fun b => .int .u8 (b.toNat : Int)
theorem bytesV_append (l m : List UInt8) : bytesV (l ++ m) = bytesV l ++ bytesV m := by simp [bytesV]
theorem bytesV_length (l : List UInt8) : (bytesV l).length = l.length := by simp [bytesV]
theorem info5 : (Tryd.prog.info? 5).map (fun i => (i.zero, i.size, i.bytes)) = some (some (.int .u8 0), 1, 1) := by kernel_rfl
/-- A row of bytes of the call's own, and some more behind it. -/
theorem bytes_app {W wr : World} {B : Nat} {v : Value} {n : Nat} {l : List UInt8} (hown : wr.ownsRow B 5 1 v n (bytesV l)) (hb : Below B W wr) (hB : B ≤ wr.heap.size)
    (news : List UInt8) (m : Nat) (hm : news.length = m) (arr : Array Value) (harr : arr = (bytesV news).toArray) (hlt : n + m ≤ 1000000) :
    ∃ v' W3, (∀ (ρ : Operand → Value) (o : Oper) (s x : Operand), o.op = Op.call { callee := Callee.builtin Builtin.append, args := #[s, x], argTypes := #[41, 41] } → ρ s = v → ρ x = .slice (some ⟨wr.heap.size, 0, none⟩) m m → (execOp ρ o).run Tryd.prog (wr.alloc (.cells arr 5)) = .ok (.value v') W3) ∧
      W3.ownsRow B 5 1 v' (n + m) (bytesV (l ++ news)) ∧ Below B W W3 ∧ W3.heap.size ≥ wr.heap.size := by
  obtain ⟨i5, hi5, hz5, hs5, hb5⟩ := info_parts info5
  subst harr
  obtain ⟨v', W3, happ, hown', hgrow, hat⟩ := exec_append_own (P := Tryd.prog) (wr.alloc (.cells (bytesV news).toArray 5)) B 41 5 i5 _ 1 1 Tryd.underlying41 hi5 hz5 hs5 hb5 rfl (by decide) _ n _ (hown.alloc _) ⟨wr.heap.size, 0, none⟩ m m (bytesV news) (by rw [bytesV_length]; omega) (by
      intro j u hu
      rw [addr_add, cell_of_row _ wr.heap.size (0 + j) (bytesV news).toArray 5 (0, 0) (heap_alloc_new wr _), Nat.zero_add, List.getElem?_toArray]
      exact hu) (by intro u hu; simp [bytesV] at hu; obtain ⟨b, _, rfl⟩ := hu; rfl) (by unfold maxLen; omega) (by omega) (by simp; omega)
  refine ⟨v', W3, happ, by rw [bytesV_append]; exact hown', (hb.alloc hB _).grown hgrow (by simp; omega) (fun j hj => (hown.lt j hj).1), ?_⟩
  have := hgrow.size
  simp at this
  omega
/-- A row of bytes of the call's own as a string. -/
theorem bytes_str {wr : World} {B : Nat} {v : Value} {n : Nat} {l : List UInt8} (hown : wr.ownsRow B 5 1 v n (bytesV l)) (hn : 0 < n) :
    ∃ g cap, v = .slice (some ⟨g, 0, none⟩) n cap ∧ (Go.convert 41 9 (.slice (some ⟨g, 0, none⟩) n cap)).run Tryd.prog wr = .ok (.string ⟨l.toArray⟩) wr := by
  have hl : l.length = n := by have := hown.1; rw [bytesV_length] at this; omega
  rcases hown.2 with ⟨_, h0⟩ | ⟨g, cap, cur, rfl, _⟩
  · omega
  · subst hl
    refine ⟨g, cap, rfl, run_convert_bytes_back wr 41 9 5 ⟨g, 0, none⟩ cap l Tryd.underlying41 Tryd.underlying5 Tryd.underlying9 (fun j hj => ?_)⟩
    rw [addr_add, Nat.zero_add, hown.cellAt j (by omega)]
    unfold bytesV
    rw [List.getElem?_map, List.getElem?_eq_getElem hj]
    rfl
end Go.Proofs.YtfcnfcolhahghaaDoor
