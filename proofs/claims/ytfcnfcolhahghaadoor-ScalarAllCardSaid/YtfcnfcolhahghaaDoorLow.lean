/- Small laws for the walks over numbers of four words. No condition but what each names. -/
import Derived.Test.YtfcnfcolhahghaaDoorIter
import Derived.Test.YtfcnfcolhahghaaDoorFenced
import Derived.Test.YtfcnfcolhahghaaDoorHeld
namespace Go.Proofs.YtfcnfcolhahghaaDoor
open Go.RowKit Go.Shelf
set_option linter.unusedVariables false
attribute [local go_sem] Oper.semAt_some
theorem row_own {B g : Nat} {t : TypeId} {kd : IntKind} {m : Nat} {f : Nat → Nat} {W W' : World} {row : Option Nat} (h : Row W g t kd m f) (hB : g < B) (hg : W.grownBy W' row) (hr : ∀ r, row = some r → B ≤ r ∧ ∃ o : Obj, W.heap[r]? = some o ∧ o.isCells = false) : Row W' g t kd m f :=
  (hg.block g h.lt (fun e => by have := (hr g e.symm).1; omega)).trans h
theorem below_own {B b : Nat} {w W W' : World} {row : Option Nat} (h : Below b w W) (hB : b ≤ B) (hb : b ≤ W.heap.size) (hg : W.grownBy W' row) (hr : ∀ r, row = some r → B ≤ r ∧ ∃ o : Obj, W.heap[r]? = some o ∧ o.isCells = false) : Below b w W' :=
  h.grown hg hb (fun k e => by have := (hr k e).1; omega)
theorem exec_indexAddr24 {ρ : Operand → Value} {o : Oper} (x y : Operand) (ho : o.op = .indexAddr 24 x y) (b i : Nat) (hx : ρ x = .pointer (some ⟨b, 0, none⟩)) (hy : ρ y = .int .i64 (i : Int)) (hi : i < 4) (w : World) :
    (execOp ρ o).run Tryd.prog w = .ok (.value (.pointer (some ⟨b, i, none⟩))) w := by
  unfold execOp
  rw [ho]
  simp only [hx, hy]
  have h1 : (i : Int) < 4 := by omega
  go_simp
theorem exec_extract {P : Program} {ρ : Operand → Value} {o : Oper} (x : Operand) (j : Nat) (ho : o.op = .extract x j) (vs : Array Value) (v : Value) (hx : ρ x = .tuple vs) (hv : vs[j]? = some v) (w : World) :
    (execOp ρ o).run P w = .ok (.value v) w := by
  unfold execOp
  simp [ho, hx, hv, Instr.extract]
theorem keeps_of_below {W W2 : World} (h : Below W.heap.size W W2) : KeepsOthers W W2 :=
  ⟨h.size, fun k o hk _ => (h.block k (Array.getElem?_eq_some_iff.1 hk).1).trans hk⟩
theorem keeps_setRow {W : World} {g : Nat} {cs cur : Array Value} {t : TypeId} {fr : Nat × Nat} (hg : W.heap[g]? = some (.cells cur t fr)) : KeepsOthers W (W.setRow g cs) :=
  KeepsOthers.of_grownBy (row := some g) ⟨rfl, rfl, rfl, by simp, fun k _ hk => setRow_other _ _ _ _ (fun e => hk (by rw [e]))⟩ (fun j o e ho => by cases e; rw [hg] at ho; cases ho; rfl)
theorem dig_zero (j : Nat) : dig 0 j = 0 := by unfold dig; split <;> rfl
theorem num_zero : (rowOf .u64 4 fun _ => 0).toArray = num 0 := by unfold num; rw [rowOf_ext (fun j _ => (dig_zero j).symm)]
theorem exec_new24 {ρ : Operand → Value} {o : Oper} (w : World) (x y : Operand) (ho : o.op = .store 24 x y) (c : Array Value) (t : TypeId) (hx : ρ x = .pointer (some ⟨w.heap.size, 0, none⟩)) (A : Array Value) (hA : IsNum A) (hy : ρ y = .agg A) (h4 : c.size = 4) :
    (execOp ρ o).run Tryd.prog (w.alloc (.cells c t)) = .ok .skip (w.alloc (.cells A t)) := by
  have h := exec_store24 (w.alloc (.cells c t)) x y ho w.heap.size hx A hA hy c t (heap_alloc_new _ _) h4
  rw [setRow_alloc _ _ _ _ _ _ rfl] at h
  exact h
theorem results_cells2 {fn : Func} {a b : Tmp} {t u : TypeId} (h : fn.results = #[.cell a t, .cell b u]) (tmps : Array Value) (P : Program) (w : World) (ad bd : Addr) (ha : tmps.getD a undef = .pointer (some ad)) (hb : tmps.getD b undef = .pointer (some bd)) (v x : Value)
    (hl : (loadVar t ad).run P w = .ok v w) (hl2 : (loadVar u bd).run P w = .ok x w) : (results fn tmps).run P w = .ok (.tuple #[v, x]) w := by
  have ha2 : tmps[a]?.getD undef = .pointer (some ad) := by rw [← Array.getD_eq_getD_getElem?]; exact ha
  have hb2 : tmps[b]?.getD undef = .pointer (some bd) := by rw [← Array.getD_eq_getD_getElem?]; exact hb
  unfold results
  rw [h]
  simp [Array.mapM_eq_mapM_toList, ha2, hb2, asAddr, hl, hl2]
theorem num_lit (N : Nat) : num N = #[.int .u64 (dig N 0 : Int), .int .u64 (dig N 1 : Int), .int .u64 (dig N 2 : Int), .int .u64 (dig N 3 : Int)] := rfl
theorem bcell {W w1 : World} (hb : Below W.heap.size W w1) : (∀ b o, b < W.heap.size → w1.cell? ⟨b, o, none⟩ = W.cell? ⟨b, o, none⟩) ∧ (∀ b o, b < W.heap.size → w1.frozen? ⟨b, o, none⟩ = W.frozen? ⟨b, o, none⟩) :=
  ⟨fun b o h => hb.cell (p := ⟨b, o, none⟩) h, fun b o h => hb.frozen (p := ⟨b, o, none⟩) h⟩
end Go.Proofs.YtfcnfcolhahghaaDoor
