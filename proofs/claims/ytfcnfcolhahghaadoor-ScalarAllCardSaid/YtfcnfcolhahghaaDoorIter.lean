/- Rows of four words, loaded and stored whole. No condition. -/
import Derived.Test.YtfcnfcolhahghaaDoorWord
namespace Go.Proofs.YtfcnfcolhahghaaDoor
open Go.RowKit Go.Shelf
set_option linter.unusedVariables false
attribute [local go_sem] Oper.semAt_some

theorem size24 (f : Nat → Nat) : (Tryd.prog.info? 24).map (·.size) = some (rowOf .u64 4 f).length := by rw [rowOf_length]; kernel_rfl
theorem zero24 (w : World) : (zeroValue 24).run Tryd.prog w = .ok (.agg (rowOf .u64 4 (fun _ => 0)).toArray) w := by kernel_rfl
theorem heapA (w : World) (o : Obj) : (w.alloc o).heap = w.heap.push o := rfl
theorem bel_alloc {B : Nat} {w W : World} (h : Below B w W) (hB : B ≤ W.heap.size) (o : Obj) : Below B w (W.alloc o) := h.alloc hB o
theorem exec_load_of {P : Program} {ρ : Operand → Value} {o : Oper} (w : World) (ty : TypeId) (x : Operand) (ho : o.op = .load ty x) (ad : Addr) (hx : ρ x = .pointer (some ad)) (v : Value) (hl : (loadVar ty ad).run P w = .ok v w) :
    (execOp ρ o).run P w = .ok (.value v) w := by
  unfold execOp
  simp only [ho, hx, Instr.loadAt, Instr.sureAddr, Sem.run_bind, Sem.run_pure, Result.andThen_ok, hl]
/-- What the iterator hands its rounds. -/
def encW (f : Nat → Nat) (x : Fin 4) : Array Value := #[.int .i64 (x.1 : Int), .int .u64 (f x.1 : Int)]
theorem index24 (f : Nat → Nat) (k : Nat) (hk : k < 4) (w : World) : (Instr.index 24 (.agg (rowOf .u64 4 f).toArray) (.int .i64 (k : Int))).run Tryd.prog w = .ok (.int .u64 (f k)) w := by
  rcases (show k = 0 ∨ k = 1 ∨ k = 2 ∨ k = 3 by omega) with rfl | rfl | rfl | rfl <;> kernel_rfl
def firsts4 (k : Nat) (hk : k ≤ 4) : List (Fin 4) := (List.finRange k).map fun x => ⟨x.1, by omega⟩
theorem firsts4_length (k : Nat) (hk : k ≤ 4) : (firsts4 k hk).length = k := by simp [firsts4]
theorem firsts4_succ (k : Nat) (hk : k + 1 ≤ 4) : firsts4 (k + 1) hk = firsts4 k (by omega) ++ [⟨k, by omega⟩] := by
  simp [firsts4, List.finRange_succ_last]
theorem firsts4_all : firsts4 4 (Nat.le_refl _) = List.finRange 4 := by simp [firsts4]

theorem load24 {W : World} {g : Nat} {f : Nat → Nat} (h : Row W g 24 .u64 4 f) : (loadVar 24 ⟨g, 0, none⟩).run Tryd.prog W = .ok (.agg (rowOf .u64 4 f).toArray) W :=
  run_loadVar_seg W 24 g 0 (rowOf .u64 4 f) _ h.seg Tryd.underlying24 rfl (size24 f)
theorem results_two {fn : Func} {a b : Tmp} {t : TypeId} (h : fn.results = #[.cell a t, .tmp b]) (tmps : Array Value) (P : Program) (w : World) (ad : Addr) (ha : tmps.getD a undef = .pointer (some ad)) (v : Value)
    (hl : (loadVar t ad).run P w = .ok v w) : (results fn tmps).run P w = .ok (.tuple #[v, tmps.getD b undef]) w := by
  have ha2 : tmps[a]?.getD undef = .pointer (some ad) := by rw [← Array.getD_eq_getD_getElem?]; exact ha
  unfold results
  rw [h]
  simp [Array.mapM_eq_mapM_toList, ha2, asAddr, hl]
/-- A number's four words. -/
def IsNum (A : Array Value) : Prop := ∃ f : Nat → Nat, A = (rowOf .u64 4 f).toArray
theorem isNum (N : Nat) : IsNum (num N) := ⟨_, rfl⟩
theorem exec_store24 {ρ : Operand → Value} {o : Oper} (w : World) (x y : Operand) (ho : o.op = .store 24 x y) (g : Nat) (hx : ρ x = .pointer (some ⟨g, 0, none⟩)) (A : Array Value) (hA : IsNum A) (hy : ρ y = .agg A) (cur : Array Value) (t : TypeId)
    (hg : w.heap[g]? = some (.cells cur t (0, 0))) (h4 : cur.size = 4) : (execOp ρ o).run Tryd.prog w = .ok .skip (w.setRow g A) := by
  obtain ⟨f, rfl⟩ := hA
  have h := exec_store_seg (P := Tryd.prog) (ρ := ρ) (o := o) w 24 x y ho g 0 hx (rowOf .u64 4 f) hy cur t hg (by rw [rowOf_length]; omega) (rowOf_one _ _ _) (size24 f)
  rw [splice_all _ _ (by rw [rowOf_length]; exact h4)] at h
  exact h
theorem loadA {W : World} {g : Nat} {A : Array Value} (hA : IsNum A) (hg : W.heap[g]? = some (.cells A 24 (0, 0))) : (loadVar 24 ⟨g, 0, none⟩).run Tryd.prog W = .ok (.agg A) W := by
  obtain ⟨f, rfl⟩ := hA
  exact load24 hg
end Go.Proofs.YtfcnfcolhahghaaDoor
