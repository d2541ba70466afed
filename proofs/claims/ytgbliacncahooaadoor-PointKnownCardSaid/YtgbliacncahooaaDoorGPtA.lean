/- Several texts, one behind the other; each says by itself what it proves, and on what conditions. -/
import Derived.Test.YtgbliacncahooaaDoorGByA
import Derived.Test.YtgbliacncahooaaDoorGDoor
import Derived.Test.YtgbliacncahooaaDoorGMathA
import Derived.Test.YtgbliacncahooaaDoorGRRoot
/- Points, ratios and their like in memory: numbers side by side; what a field is, what a cell is; how they are built, loaded, stored. No condition but what each names. -/
namespace Go.Proofs.YtgbliacncahooaaDoor
open Go.RowKit Go.Shelf
set_option linter.unusedVariables false
set_option linter.unusedSimpArgs false
/-- An array stands in another one, from a place on. -/
def Part (P : Array Value) (off : Nat) (A : Array Value) : Prop := ∀ j v, A[j]? = some v → P[off + j]? = some v
theorem part_all (A : Array Value) : Part A 0 A := fun j v h => by rw [Nat.zero_add]; exact h
theorem part_left {P A : Array Value} (off : Nat) (h : Part P off A) (B : Array Value) : Part (P ++ B) off A := fun j v hv => by
  have h1 := h j v hv
  have hlt := (Array.getElem?_eq_some_iff.1 h1).1
  rw [Array.getElem?_append_left hlt]
  exact h1
theorem part_right (P A : Array Value) (off : Nat) (h : P.size = off) : Part (P ++ A) off A := fun j v hv => by
  subst h
  rw [Array.getElem?_append_right (Nat.le_add_right _ _), Nat.add_sub_cancel_left]
  exact hv
theorem isRw4 {A : Array Value} (h : IsNum A) : IsRw 4 A := h
theorem rw_app {m n : Nat} {A B : Array Value} (hA : IsRw m A) (hB : IsRw n B) : IsRw (m + n) (A ++ B) := by
  obtain ⟨f, rfl⟩ := hA
  obtain ⟨g, rfl⟩ := hB
  refine ⟨fun j => if j < m then f j else g (j - m), ?_⟩
  rw [List.append_toArray]
  congr 1
  apply List.ext_getElem?
  intro j
  rw [List.getElem?_append, rowOf_length]
  by_cases h : j < m
  · rw [if_pos h, rowOf_get _ _ _ _ h, rowOf_get _ _ _ _ (by omega), if_pos h]
  · rw [if_neg h]
    by_cases h2 : j < m + n
    · rw [rowOf_get _ _ _ _ h2, rowOf_get _ _ _ _ (by omega), if_neg h]
    · rw [List.getElem?_eq_none (by rw [rowOf_length]; omega), List.getElem?_eq_none (by rw [rowOf_length]; omega)]
theorem IsRw.sz {n : Nat} {A : Array Value} (h : IsRw n A) : A.size = n := by obtain ⟨f, rfl⟩ := h; exact rowOf_size _ _ _
/-- A number in a row of several. -/
theorem load_part {W : World} {g : Nat} {P A : Array Value} {t : TypeId} (hg : W.heap[g]? = some (.cells P t (0, 0))) (hA : IsNum A) (off : Nat) (hp : Part P off A) : (loadVar 24 ⟨g, off, none⟩).run Tryd.prog W = .ok (.agg A) W := by
  obtain ⟨f, rfl⟩ := hA
  exact run_loadVar_seg W 24 g off (rowOf .u64 4 f) _ (fun j v hv => (cell_of_row W g (off + j) _ t (0, 0) hg).trans (hp j v (by rw [List.getElem?_toArray]; exact hv))) Tryd.underlying24 rfl (size24 f)
/-- A cell of a row. -/
theorem cell_part {W : World} {g : Nat} {P : Array Value} {t : TypeId} (hg : W.heap[g]? = some (.cells P t (0, 0))) (off : Nat) (v : Value) (h : P[off]? = some v) : W.cell? ⟨g, off, none⟩ = some v := (cell_of_row W g off P t (0, 0) hg).trans h
theorem exec_field {ρ : Operand → Value} {o : Oper} (s : TypeId) (x : Operand) (k : Nat) (ho : o.op = .fieldAddr s x k) (v u : Value) (hx : ρ x = v) (w : World) (hr : (Instr.fieldAt s v k).run Tryd.prog w = .ok u w) : (execOp ρ o).run Tryd.prog w = .ok (.value u) w := by
  subst hx
  unfold execOp
  simp [ho, hr]
theorem exec_globalA {ρ : Operand → Value} {o : Oper} (w : World) (ty : TypeId) (x : Operand) (ho : o.op = .load ty x) (ad : Addr) (hx : ρ x = .pointer (some ad)) (v : Value) (hl : (loadVar ty ad).run Tryd.prog w = .ok v w) : (execOp ρ o).run Tryd.prog w = .ok (.value v) w := exec_load_of w ty x ho ad hx v hl
theorem exec_buildN {ρ : Operand → Value} {o : Oper} (w : World) (t : TypeId) (l : Array (Nat × Operand)) (ho : o.op = .build t l) (m : Array (Nat × Value)) (hm : l.map (fun y => (y.1, ρ y.2)) = m) (v : Value) (hrun : (Instr.build t m).run Tryd.prog w = .ok v w) : (execOp ρ o).run Tryd.prog w = .ok (.value v) w := by
  subst hm
  unfold execOp
  rw [ho]
  simp only [Sem.run_bind, Sem.run_map]
  first | (rw [hrun]; rfl) | simp [hrun]
theorem sizeT26 (f : Nat → Nat) : (Tryd.prog.info? 26).map (·.size) = some (rowOf .u64 8 f).length := by rw [rowOf_length]; kernel_rfl
theorem zeroT26 (w : World) : (zeroValue 26).run Tryd.prog w = .ok (.agg (rowOf .u64 8 (fun _ => 0)).toArray) w := by kernel_rfl
theorem loadT26 {W : World} {g : Nat} {A : Array Value} (hA : IsRw 8 A) {t : TypeId} (hg : W.heap[g]? = some (.cells A t (0, 0))) : (loadVar 26 ⟨g, 0, none⟩).run Tryd.prog W = .ok (.agg A) W := by
  obtain ⟨f, rfl⟩ := hA
  exact run_loadVar_seg W 26 g 0 (rowOf .u64 8 f) _ (Row.seg (t := t) hg) Tryd.underlying26 rfl (sizeT26 f)
theorem exec_storeT26 {ρ : Operand → Value} {o : Oper} (w : World) (x y : Operand) (ho : o.op = .store 26 x y) (g : Nat) (hx : ρ x = .pointer (some ⟨g, 0, none⟩)) (A : Array Value) (hA : IsRw 8 A) (hy : ρ y = .agg A) (cur : Array Value) (t : TypeId)
    (hg : w.heap[g]? = some (.cells cur t (0, 0))) (h8 : cur.size = 8) : (execOp ρ o).run Tryd.prog w = .ok .skip (w.setRow g A) := by
  obtain ⟨f, rfl⟩ := hA
  have h := exec_store_seg (P := Tryd.prog) (ρ := ρ) (o := o) w 26 x y ho g 0 hx (rowOf .u64 8 f) hy cur t hg (by rw [rowOf_length]; omega) (rowOf_one _ _ _) (sizeT26 f)
  rwa [splice_all _ _ (by rw [rowOf_length]; exact h8)] at h
theorem fa26_0 (g : Nat) (w : World) : (Instr.fieldAt 26 (.pointer (some ⟨g, 0, none⟩)) 0).run Tryd.prog w = .ok (.pointer (some ⟨g, 0, none⟩)) w := by kernel_rfl
theorem fa26_1 (g : Nat) (w : World) : (Instr.fieldAt 26 (.pointer (some ⟨g, 0, none⟩)) 1).run Tryd.prog w = .ok (.pointer (some ⟨g, 4, none⟩)) w := by kernel_rfl
theorem sizeT66 (f : Nat → Nat) : (Tryd.prog.info? 66).map (·.size) = some (rowOf .u64 16 f).length := by rw [rowOf_length]; kernel_rfl
theorem zeroT66 (w : World) : (zeroValue 66).run Tryd.prog w = .ok (.agg (rowOf .u64 16 (fun _ => 0)).toArray) w := by kernel_rfl
theorem loadT66 {W : World} {g : Nat} {A : Array Value} (hA : IsRw 16 A) {t : TypeId} (hg : W.heap[g]? = some (.cells A t (0, 0))) : (loadVar 66 ⟨g, 0, none⟩).run Tryd.prog W = .ok (.agg A) W := by
  obtain ⟨f, rfl⟩ := hA
  exact run_loadVar_seg W 66 g 0 (rowOf .u64 16 f) _ (Row.seg (t := t) hg) Tryd.underlying66 rfl (sizeT66 f)
theorem exec_storeT66 {ρ : Operand → Value} {o : Oper} (w : World) (x y : Operand) (ho : o.op = .store 66 x y) (g : Nat) (hx : ρ x = .pointer (some ⟨g, 0, none⟩)) (A : Array Value) (hA : IsRw 16 A) (hy : ρ y = .agg A) (cur : Array Value) (t : TypeId)
    (hg : w.heap[g]? = some (.cells cur t (0, 0))) (h8 : cur.size = 16) : (execOp ρ o).run Tryd.prog w = .ok .skip (w.setRow g A) := by
  obtain ⟨f, rfl⟩ := hA
  have h := exec_store_seg (P := Tryd.prog) (ρ := ρ) (o := o) w 66 x y ho g 0 hx (rowOf .u64 16 f) hy cur t hg (by rw [rowOf_length]; omega) (rowOf_one _ _ _) (sizeT66 f)
  rwa [splice_all _ _ (by rw [rowOf_length]; exact h8)] at h
theorem fa66_0 (g : Nat) (w : World) : (Instr.fieldAt 66 (.pointer (some ⟨g, 0, none⟩)) 0).run Tryd.prog w = .ok (.pointer (some ⟨g, 0, none⟩)) w := by kernel_rfl
theorem fa66_1 (g : Nat) (w : World) : (Instr.fieldAt 66 (.pointer (some ⟨g, 0, none⟩)) 1).run Tryd.prog w = .ok (.pointer (some ⟨g, 4, none⟩)) w := by kernel_rfl
theorem fa66_2 (g : Nat) (w : World) : (Instr.fieldAt 66 (.pointer (some ⟨g, 0, none⟩)) 2).run Tryd.prog w = .ok (.pointer (some ⟨g, 8, none⟩)) w := by kernel_rfl
theorem fa66_3 (g : Nat) (w : World) : (Instr.fieldAt 66 (.pointer (some ⟨g, 0, none⟩)) 3).run Tryd.prog w = .ok (.pointer (some ⟨g, 12, none⟩)) w := by kernel_rfl
theorem sizeT71 (f : Nat → Nat) : (Tryd.prog.info? 71).map (·.size) = some (rowOf .u64 12 f).length := by rw [rowOf_length]; kernel_rfl
theorem zeroT71 (w : World) : (zeroValue 71).run Tryd.prog w = .ok (.agg (rowOf .u64 12 (fun _ => 0)).toArray) w := by kernel_rfl
theorem loadT71 {W : World} {g : Nat} {A : Array Value} (hA : IsRw 12 A) {t : TypeId} (hg : W.heap[g]? = some (.cells A t (0, 0))) : (loadVar 71 ⟨g, 0, none⟩).run Tryd.prog W = .ok (.agg A) W := by
  obtain ⟨f, rfl⟩ := hA
  exact run_loadVar_seg W 71 g 0 (rowOf .u64 12 f) _ (Row.seg (t := t) hg) Tryd.underlying71 rfl (sizeT71 f)
theorem exec_storeT71 {ρ : Operand → Value} {o : Oper} (w : World) (x y : Operand) (ho : o.op = .store 71 x y) (g : Nat) (hx : ρ x = .pointer (some ⟨g, 0, none⟩)) (A : Array Value) (hA : IsRw 12 A) (hy : ρ y = .agg A) (cur : Array Value) (t : TypeId)
    (hg : w.heap[g]? = some (.cells cur t (0, 0))) (h8 : cur.size = 12) : (execOp ρ o).run Tryd.prog w = .ok .skip (w.setRow g A) := by
  obtain ⟨f, rfl⟩ := hA
  have h := exec_store_seg (P := Tryd.prog) (ρ := ρ) (o := o) w 71 x y ho g 0 hx (rowOf .u64 12 f) hy cur t hg (by rw [rowOf_length]; omega) (rowOf_one _ _ _) (sizeT71 f)
  rwa [splice_all _ _ (by rw [rowOf_length]; exact h8)] at h
theorem fa71_0 (g : Nat) (w : World) : (Instr.fieldAt 71 (.pointer (some ⟨g, 0, none⟩)) 0).run Tryd.prog w = .ok (.pointer (some ⟨g, 0, none⟩)) w := by kernel_rfl
theorem fa71_1 (g : Nat) (w : World) : (Instr.fieldAt 71 (.pointer (some ⟨g, 0, none⟩)) 1).run Tryd.prog w = .ok (.pointer (some ⟨g, 4, none⟩)) w := by kernel_rfl
theorem fa71_2 (g : Nat) (w : World) : (Instr.fieldAt 71 (.pointer (some ⟨g, 0, none⟩)) 2).run Tryd.prog w = .ok (.pointer (some ⟨g, 8, none⟩)) w := by kernel_rfl
theorem fa60_0 (g : Nat) (w : World) : (Instr.fieldAt 60 (.pointer (some ⟨g, 0, none⟩)) 0).run Tryd.prog w = .ok (.pointer (some ⟨g, 0, none⟩)) w := by kernel_rfl
theorem fa60_1 (g : Nat) (w : World) : (Instr.fieldAt 60 (.pointer (some ⟨g, 0, none⟩)) 1).run Tryd.prog w = .ok (.pointer (some ⟨g, 4, none⟩)) w := by kernel_rfl
theorem fa31_0 (g : Nat) (w : World) : (Instr.fieldAt 31 (.pointer (some ⟨g, 0, none⟩)) 0).run Tryd.prog w = .ok (.pointer (some ⟨g, 0, none⟩)) w := by kernel_rfl
theorem fa31_1 (g : Nat) (w : World) : (Instr.fieldAt 31 (.pointer (some ⟨g, 0, none⟩)) 1).run Tryd.prog w = .ok (.pointer (some ⟨g, 8, none⟩)) w := by kernel_rfl
theorem bp01_lit (a0 a1 a2 a3 b0 b1 b2 b3 : Value) (w : World) : (Instr.build 26 #[(0, .agg #[a0, a1, a2, a3]), (1, .agg #[b0, b1, b2, b3])]).run Tryd.prog w = .ok (.agg #[a0, a1, a2, a3, b0, b1, b2, b3]) w := by kernel_rfl
theorem bp01 {A B : Array Value} (hA : IsNum A) (hB : IsNum B) (w : World) : (Instr.build 26 #[(0, .agg A), (1, .agg B)]).run Tryd.prog w = .ok (.agg (A ++ B)) w := by
  obtain ⟨fa, rfl⟩ := hA
  obtain ⟨fb, rfl⟩ := hB
  exact bp01_lit _ _ _ _ _ _ _ _ w
theorem bp1_lit (b0 b1 b2 b3 : Value) (w : World) : (Instr.build 26 #[(1, .agg #[b0, b1, b2, b3])]).run Tryd.prog w = .ok (.agg #[.int .u64 0, .int .u64 0, .int .u64 0, .int .u64 0, b0, b1, b2, b3]) w := by kernel_rfl
theorem bp1 {B : Array Value} (hB : IsNum B) (w : World) : (Instr.build 26 #[(1, .agg B)]).run Tryd.prog w = .ok (.agg (num 0 ++ B)) w := by
  obtain ⟨fb, rfl⟩ := hB
  exact bp1_lit _ _ _ _ w
theorem bp0_lit (a0 a1 a2 a3 : Value) (w : World) : (Instr.build 26 #[(0, .agg #[a0, a1, a2, a3])]).run Tryd.prog w = .ok (.agg #[a0, a1, a2, a3, .int .u64 0, .int .u64 0, .int .u64 0, .int .u64 0]) w := by kernel_rfl
theorem bp0 {A : Array Value} (hA : IsNum A) (w : World) : (Instr.build 26 #[(0, .agg A)]).run Tryd.prog w = .ok (.agg (A ++ num 0)) w := by
  obtain ⟨fa, rfl⟩ := hA
  exact bp0_lit _ _ _ _ w
theorem br0123_lit (a0 a1 a2 a3 b0 b1 b2 b3 c0 c1 c2 c3 d0 d1 d2 d3 : Value) (w : World) : (Instr.build 66 #[(0, .agg #[a0, a1, a2, a3]), (1, .agg #[b0, b1, b2, b3]), (2, .agg #[c0, c1, c2, c3]), (3, .agg #[d0, d1, d2, d3])]).run Tryd.prog w = .ok (.agg #[a0, a1, a2, a3, b0, b1, b2, b3, c0, c1, c2, c3, d0, d1, d2, d3]) w := by kernel_rfl
theorem br0123 {A B C D : Array Value} (hA : IsNum A) (hB : IsNum B) (hC : IsNum C) (hD : IsNum D) (w : World) : (Instr.build 66 #[(0, .agg A), (1, .agg B), (2, .agg C), (3, .agg D)]).run Tryd.prog w = .ok (.agg (A ++ B ++ C ++ D)) w := by
  obtain ⟨fa, rfl⟩ := hA
  obtain ⟨fb, rfl⟩ := hB
  obtain ⟨fc, rfl⟩ := hC
  obtain ⟨fd, rfl⟩ := hD
  exact br0123_lit _ _ _ _ _ _ _ _ _ _ _ _ _ _ _ _ w
theorem bt012_lit (a0 a1 a2 a3 b0 b1 b2 b3 c0 c1 c2 c3 : Value) (w : World) : (Instr.build 71 #[(0, .agg #[a0, a1, a2, a3]), (1, .agg #[b0, b1, b2, b3]), (2, .agg #[c0, c1, c2, c3])]).run Tryd.prog w = .ok (.agg #[a0, a1, a2, a3, b0, b1, b2, b3, c0, c1, c2, c3]) w := by kernel_rfl
theorem bt012 {A B C : Array Value} (hA : IsNum A) (hB : IsNum B) (hC : IsNum C) (w : World) : (Instr.build 71 #[(0, .agg A), (1, .agg B), (2, .agg C)]).run Tryd.prog w = .ok (.agg (A ++ B ++ C)) w := by
  obtain ⟨fa, rfl⟩ := hA
  obtain ⟨fb, rfl⟩ := hB
  obtain ⟨fc, rfl⟩ := hC
  exact bt012_lit _ _ _ _ _ _ _ _ _ _ _ _ w
theorem bt12_lit (b0 b1 b2 b3 c0 c1 c2 c3 : Value) (w : World) : (Instr.build 71 #[(1, .agg #[b0, b1, b2, b3]), (2, .agg #[c0, c1, c2, c3])]).run Tryd.prog w = .ok (.agg #[.int .u64 0, .int .u64 0, .int .u64 0, .int .u64 0, b0, b1, b2, b3, c0, c1, c2, c3]) w := by kernel_rfl
theorem bt12 {B C : Array Value} (hB : IsNum B) (hC : IsNum C) (w : World) : (Instr.build 71 #[(1, .agg B), (2, .agg C)]).run Tryd.prog w = .ok (.agg (num 0 ++ B ++ C)) w := by
  obtain ⟨fb, rfl⟩ := hB
  obtain ⟨fc, rfl⟩ := hC
  exact bt12_lit _ _ _ _ _ _ _ _ w
theorem bp_none (w : World) : (Instr.build 26 #[]).run Tryd.prog w = .ok (.agg (num 0 ++ num 0)) w := by kernel_rfl
/-- A point with whether it is one, in memory. -/
def spotV (f : Nat → Nat) (b : Bool) : Array Value := (rowOf .u64 8 f ++ [Value.bool b]).toArray
def IsSpot (A : Array Value) : Prop := ∃ f b, A = spotV f b
theorem IsSpot.size {A : Array Value} (h : IsSpot A) : A.size = 9 := by obtain ⟨f, b, rfl⟩ := h; simp [spotV, rowOf_length]
theorem spotL (f : Nat → Nat) (b : Bool) : (rowOf .u64 8 f ++ [Value.bool b]).length = 9 := by simp [rowOf_length]
theorem sizeT31 (f : Nat → Nat) (b : Bool) : (Tryd.prog.info? 31).map (·.size) = some (rowOf .u64 8 f ++ [Value.bool b]).length := by rw [spotL]; kernel_rfl
theorem spotOne (f : Nat → Nat) (b : Bool) : ∀ v ∈ rowOf .u64 8 f ++ [Value.bool b], v.oneCell' = true := by
  intro v hv
  rcases List.mem_append.1 hv with h | h
  · exact rowOf_one _ _ _ v h
  · simp at h; subst h; rfl
theorem zeroT31 (w : World) : (zeroValue 31).run Tryd.prog w = .ok (.agg (spotV (fun _ => 0) false)) w := by kernel_rfl
theorem loadT31 {W : World} {g : Nat} {A : Array Value} (hA : IsSpot A) {t : TypeId} (hg : W.heap[g]? = some (.cells A t (0, 0))) : (loadVar 31 ⟨g, 0, none⟩).run Tryd.prog W = .ok (.agg A) W := by
  obtain ⟨f, b, rfl⟩ := hA
  exact run_loadVar_seg W 31 g 0 (rowOf .u64 8 f ++ [Value.bool b]) _ (fun j v hv => by rw [Nat.zero_add, cell_of_row W g j _ t (0, 0) hg, spotV, List.getElem?_toArray, hv]) Tryd.underlying31 rfl (sizeT31 f b)
theorem exec_storeT31 {ρ : Operand → Value} {o : Oper} (w : World) (x y : Operand) (ho : o.op = .store 31 x y) (g : Nat) (hx : ρ x = .pointer (some ⟨g, 0, none⟩)) (A : Array Value) (hA : IsSpot A) (hy : ρ y = .agg A) (cur : Array Value) (t : TypeId)
    (hg : w.heap[g]? = some (.cells cur t (0, 0))) (h8 : cur.size = 9) : (execOp ρ o).run Tryd.prog w = .ok .skip (w.setRow g A) := by
  obtain ⟨f, b, rfl⟩ := hA
  have h := exec_store_seg (P := Tryd.prog) (ρ := ρ) (o := o) w 31 x y ho g 0 hx (rowOf .u64 8 f ++ [Value.bool b]) hy cur t hg (by rw [spotL]; omega) (spotOne f b) (sizeT31 f b)
  rwa [splice_all _ _ (by rw [spotL]; exact h8)] at h
theorem bs_none (w : World) : (Instr.build 31 #[]).run Tryd.prog w = .ok (.agg (spotV (fun _ => 0) false)) w := by kernel_rfl
theorem bs_lit (a0 a1 a2 a3 a4 a5 a6 a7 : Value) (b : Bool) (w : World) : (Instr.build 31 #[(0, .agg #[a0, a1, a2, a3, a4, a5, a6, a7]), (1, .bool b)]).run Tryd.prog w = .ok (.agg #[a0, a1, a2, a3, a4, a5, a6, a7, .bool b]) w := by kernel_rfl
theorem bs01 {P : Array Value} (hP : IsRw 8 P) (b : Bool) (w : World) : (Instr.build 31 #[(0, .agg P), (1, .bool b)]).run Tryd.prog w = .ok (.agg (P ++ #[.bool b])) w := by
  obtain ⟨f, rfl⟩ := hP
  exact bs_lit _ _ _ _ _ _ _ _ b w
theorem spot_of {P : Array Value} (hP : IsRw 8 P) (b : Bool) : IsSpot (P ++ #[.bool b]) := by
  obtain ⟨f, rfl⟩ := hP
  exact ⟨f, b, by simp [spotV]⟩
theorem load26_part {W : World} {g : Nat} {P A : Array Value} {t : TypeId} (hg : W.heap[g]? = some (.cells P t (0, 0))) (hA : IsRw 8 A) (off : Nat) (hp : Part P off A) : (loadVar 26 ⟨g, off, none⟩).run Tryd.prog W = .ok (.agg A) W := by
  obtain ⟨f, rfl⟩ := hA
  exact run_loadVar_seg W 26 g off (rowOf .u64 8 f) _ (fun j v hv => (cell_of_row W g (off + j) _ t (0, 0) hg).trans (hp j v (by rw [List.getElem?_toArray]; exact hv))) Tryd.underlying26 rfl (sizeT26 f)
/-- A number stored into a row of several: what stands at its place is it. -/
theorem exec_store_part {ρ : Operand → Value} {o : Oper} (w : World) (x y : Operand) (ho : o.op = .store 24 x y) (g off : Nat) (hx : ρ x = .pointer (some ⟨g, off, none⟩)) (A : Array Value) (hA : IsNum A) (hy : ρ y = .agg A) (cur new : Array Value) (t : TypeId)
    (hg : w.heap[g]? = some (.cells cur t (0, 0))) (hsz : off + 4 ≤ cur.size) (hn : splice cur off A.toList = new) : (execOp ρ o).run Tryd.prog w = .ok .skip (w.setRow g new) := by
  obtain ⟨f, rfl⟩ := hA
  subst hn
  exact exec_store_seg (P := Tryd.prog) (ρ := ρ) (o := o) w 24 x y ho g off hx (rowOf .u64 4 f) hy cur t hg (by rw [rowOf_length]; omega) (rowOf_one _ _ _) (size24 f)
theorem splice_left (A B C : Array Value) (h : A.size = C.size) : splice (A ++ B) 0 C.toList = C ++ B := by
  unfold splice
  simp [h.symm]
theorem base_load {w : World} (h : Glob w) : (loadVar 26 ⟨1, 0, none⟩).run Tryd.prog w = .ok (.agg (num baseN.1 ++ num baseN.2)) w := by
  obtain ⟨_, t, h⟩ := h
  exact loadT26 (rw_app (isRw4 (isNum _)) (isRw4 (isNum _))) h
end Go.Proofs.YtgbliacncahooaaDoor
/- number of the document: the number that 32 bytes say, the lowest first. No condition but that there are 32. -/
namespace Go.Proofs.YtgbliacncahooaaDoor
open Go.RowKit Go.Shelf
set_option linter.unusedVariables false
set_option linter.unusedSimpArgs false
set_option maxRecDepth 100000 in
set_option maxHeartbeats 1000000 in
theorem number_any (s : ByteArray) (h32 : s.size = 32) (w : World) :
    Calls Tryd.prog 31 #[.string s] w fun e w' => e = .returned (.agg (num (leVal s.data.toList))) ∧ Below w.heap.size w w' := by
  have HZ := zero_run
  have IZ := isNum 0
  have hsl : s.data.toList.length = 32 := h32
  obtain ⟨l, hl⟩ : ∃ l, Hid (l = s.data.toList) := ⟨_, Lib.hid rfl⟩
  rw [← hl.out] at hsl ⊢
  have HK : Hid (Kn w [(w.heap.size, num 0), (w.heap.size + 1, (rowOf .u64 4 (wordAt (l.take 0))).toArray)] ((w.alloc (.cells (num 0) 24)).alloc (.cells (num 0) 24))) := by
    have h := ((Kn.nil w).new (num 0)).new (num 0)
    simp only [World.size_alloc] at h
    rw [List.take_zero, rowOf_ext (f := wordAt []) (g := fun _ => 0) (fun j _ => wordAt_nil j), num_zero]
    exact Lib.hid (h.sub (fun p hp => by simp at hp ⊢; rcases hp with h | h <;> simp [h]))
  obtain ⟨Z, hZe⟩ : ∃ Z, Hid (Z = num 0) := ⟨_, Lib.hid rfl⟩
  rw [← hZe.out] at HK IZ
  have HZ2 : ∀ w, (zeroValue 24).run Tryd.prog w = .ok (.agg Z) w := by rw [hZe.out]; exact HZ
  have hs32 : (s.size : Int) = 32 := by omega
  clear HZ
  go_enter Tryd.func31, Tryd.ntmps31
  go_wp2_with ((refine wpList_run rfl _ (exec_alloc_agg _ 24 rfl _ (HZ2 _)) ?_); try simp only [World.size_alloc])
  try simp only [Act.put, sT, sS, sZ]
  generalize (w.alloc (.cells Z 24)).alloc (.cells Z 24) = W0 at *
  go_loopw [4] (fun u wr => ∃ i : Nat, i ≤ 32 ∧ u = .int .i64 i ∧ Kn w [(w.heap.size, Z), (w.heap.size + 1, (rowOf .u64 4 (wordAt (l.take i))).toArray)] wr) (fun u _ => 32 - (intOf u).toNat)
  case atStart => exact ⟨0, by omega, rfl, HK.out⟩
  case round =>
    clear HK
    obtain ⟨i, hi, rfl, hK⟩ := hrel
    by_cases hlt : i < 32
    · have hil : i < l.length := by omega
      have his : i < s.size := by omega
      have htl : (l.take i).length = i := by rw [List.length_take]; omega
      obtain ⟨j, hj0⟩ : ∃ j, j = i / 8 := ⟨_, rfl⟩
      obtain ⟨q, hq0⟩ : ∃ q, q = i % 8 := ⟨_, rfl⟩
      obtain ⟨sh, hsh0⟩ : ∃ sh, sh = 8 * q := ⟨_, rfl⟩
      have hj4 : j < 4 := by omega
      have hq8 : q < 8 := by omega
      have hs64 : sh < 64 := by omega
      obtain ⟨c, hc0⟩ : ∃ c, c = s[i].toNat := ⟨_, rfl⟩
      have hcl2 : c = l[i].toNat := by rw [hc0]; congr 1; simp only [hl.out]; rfl
      have hc256 : c < 256 := by rw [hc0]; exact UInt8.toNat_lt _
      have hcl : c * 2 ^ sh < 18446744073709551616 := by
        have h1 : 2 ^ sh ≤ 2 ^ 56 := Nat.pow_le_pow_right (by decide) (by omega)
        have h2 : c * 2 ^ sh ≤ 255 * 2 ^ 56 := Nat.mul_le_mul (by omega) h1
        omega
      have hxs0 := wordAt_part (l.take i) i htl.symm
      rw [← hj0, ← hq0, ← hsh0] at hxs0
      obtain ⟨r, hr0⟩ : ∃ r, r = wordAt (l.take i) j + c * 2 ^ sh := ⟨_, rfl⟩
      have hstep : ∀ z, upd (wordAt (l.take i)) j r z = wordAt (l.take (i + 1)) z := by
        intro z
        rw [List.take_succ_eq_append_getElem hil, wordAt_snoc, htl, ← hj0, ← hq0, ← hsh0, ← hcl2]
        unfold upd
        by_cases hz : z = j
        · subst hz; rw [if_pos rfl, if_pos rfl, hr0]
        · rw [if_neg hz, if_neg hz]
      have hrl : r < 18446744073709551616 := by
        have h := hstep j
        rw [upd_same] at h
        rw [h]
        exact wordAt_lt _ _
      have HST : Hid ((rowOf .u64 4 (upd (wordAt (l.take i)) j r)).toArray = (rowOf .u64 4 (wordAt (l.take (i + 1)))).toArray) := by
        unfold Hid
        rw [rowOf_ext (fun z _ => hstep z)]
      have HRW : Hid (Row wr (w.heap.size + 1) 24 .u64 4 (wordAt (l.take i))) := Lib.hid (hK.get (w.heap.size + 1) _ (by simp))
      obtain ⟨x, hx0⟩ : ∃ x, x = wordAt (l.take i) j := ⟨_, rfl⟩
      rw [← hx0] at hxs0 hr0
      have hxs : x < 2 ^ sh := hxs0
      have hAj0 : (rowOf .u64 4 (wordAt (l.take i))).toArray[j]? = some (.int .u64 (x : Int)) := by rw [List.getElem?_toArray, rowOf_get _ _ _ _ hj4, hx0]
      obtain ⟨A, hA⟩ : ∃ A, Hid (A = (rowOf .u64 4 (wordAt (l.take i))).toArray) := ⟨_, Lib.hid rfl⟩
      rw [← hA.out] at hAj0 hK
      have hAj := hAj0
      have hj := Lib.hid hj0
      have hq := Lib.hid hq0
      have hsh := Lib.hid hsh0
      have hc := Lib.hid hc0
      have hr := Lib.hid hr0
      have hli : (i : Int) < 32 := by omega
      have HKK := Lib.hid hK
      clear hj0 hq0 hsh0 hc0 hr0 hx0 hcl2 htl hstep hxs0 hAj0 hK
      go_wp2
      refine wp_region_any (by kernel_rfl) ?_
      change wpAny _ _ _ _ _ _ _ (World.drew _)
      have HSD := HKK.out.drew
      generalize hWd : wr.drew = Wd at *
      refine any_of_F (S := Kn w [(w.heap.size, Z), (w.heap.size + 1, A)]) (f := 14) _ _ _ _ ?_
      refine tkL 0 (some 15) (.move (.tmp 4)) (.int .i64 (i : Int)) (fun o ho w2 hw => exec_move (.tmp 4) ho _ rfl w2) HSD ?_
      simp only [Act.put, sT, sS, sZ]
      refine tkL 1 (some 16) (.binOp .quo 3 (.tmp 15) (.const (.int .i64 8)) 3) (.int .i64 (j : Int)) (fun o ho w2 hw => exec_quo8 (.tmp 15) ho rfl i j (by omega) rfl hj.out w2) HSD ?_
      simp only [Act.put, sT, sS, sZ]
      refine tkL 2 (some 17) (.indexAddr 24 (.tmp 3) (.tmp 16)) (.pointer (some ⟨w.heap.size + 1, j, none⟩)) (fun o ho w2 hw => exec_indexAddr24 (.tmp 3) (.tmp 16) ho (w.heap.size + 1) j rfl rfl hj4 w2) HSD ?_
      simp only [Act.put, sT, sS, sZ]
      refine tkL 3 (some 18) (.load 22 (.tmp 17)) (.int .u64 (x : Int)) (fun o ho w2 hw => exec_load_one w2 22 (.tmp 17) ho ⟨w.heap.size + 1, j, none⟩ rfl _ ((hw.cell (w.heap.size + 1) A (by simp) j).trans hAj) _ Tryd.underlying22 rfl) HSD ?_
      simp only [Act.put, sT, sS, sZ]
      refine tkL 4 (some 19) (.move (.tmp 0)) (.string s) (fun o ho w2 hw => exec_move (.tmp 0) ho _ rfl w2) HSD ?_
      simp only [Act.put, sT, sS, sZ]
      refine tkL 5 (some 20) (.move (.tmp 4)) (.int .i64 (i : Int)) (fun o ho w2 hw => exec_move (.tmp 4) ho _ rfl w2) HSD ?_
      simp only [Act.put, sT, sS, sZ]
      refine tkL 6 (some 21) (.index 9 (.tmp 19) (.tmp 20)) (.int .u8 (c : Int)) (fun o ho w2 hw => exec_index_str (.tmp 19) (.tmp 20) ho s i his rfl rfl c hc.out w2) HSD ?_
      simp only [Act.put, sT, sS, sZ]
      refine tkL 7 (some 22) (.convert 5 22 (.tmp 21)) (.int .u64 (c : Int)) (fun o ho w2 hw => exec_conv64 (.tmp 21) ho c hc256 rfl w2) HSD ?_
      simp only [Act.put, sT, sS, sZ]
      refine tkL 8 (some 23) (.move (.tmp 4)) (.int .i64 (i : Int)) (fun o ho w2 hw => exec_move (.tmp 4) ho _ rfl w2) HSD ?_
      simp only [Act.put, sT, sS, sZ]
      refine tkL 9 (some 24) (.binOp .rem 3 (.tmp 23) (.const (.int .i64 8)) 3) (.int .i64 (q : Int)) (fun o ho w2 hw => exec_rem8 (.tmp 23) ho rfl i q (by omega) rfl hq.out w2) HSD ?_
      simp only [Act.put, sT, sS, sZ]
      refine tkL 10 (some 25) (.binOp .mul 3 (.tmp 24) (.const (.int .i64 8)) 3) (.int .i64 (sh : Int)) (fun o ho w2 hw => exec_mul8 (.tmp 24) ho rfl q sh hq8 rfl hsh.out w2) HSD ?_
      simp only [Act.put, sT, sS, sZ]
      refine tkL 11 (some 26) (.binOp .shl 22 (.tmp 22) (.tmp 25) 3) (.int .u64 ((c * 2 ^ sh : Nat) : Int)) (fun o ho w2 hw => exec_shl (.tmp 22) (.tmp 25) ho c sh _ hs64 rfl rfl rfl hcl w2) HSD ?_
      simp only [Act.put, sT, sS, sZ]
      refine tkL 12 (some 27) (.binOp .or 22 (.tmp 18) (.tmp 26) 22) (.int .u64 (r : Int)) (fun o ho w2 hw => exec_or (.tmp 18) (.tmp 26) ho x c sh r rfl rfl hxs hr.out hrl w2) HSD ?_
      simp only [Act.put, sT, sS, sZ]
      refine tkL 13 (some 28) (.indexAddr 24 (.tmp 3) (.tmp 16)) (.pointer (some ⟨w.heap.size + 1, j, none⟩)) (fun o ho w2 hw => exec_indexAddr24 (.tmp 3) (.tmp 16) ho (w.heap.size + 1) j rfl rfl hj4 w2) HSD ?_
      simp only [Act.put, sT, sS, sZ]
      have HRD : Row Wd (w.heap.size + 1) 24 .u64 4 (wordAt (l.take i)) := by rw [← hWd]; exact HRW.out
      have HN9 : Kn w [(w.heap.size, Z), (w.heap.size + 1, (rowOf .u64 4 (wordAt (l.take (i + 1)))).toArray)] (Wd.setCell ⟨w.heap.size + 1, j, none⟩ (.int .u64 (r : Int))) := by
        rw [← HST.out]
        exact HSD.setw (w.heap.size + 1) (wordAt (l.take i)) j r HRD (by omega) (fun p hp => by simp at hp; rcases hp with rfl | rfl <;> simp)
      refine rdy [14] (ReadyF.last (w2 := Wd.setCell ⟨w.heap.size + 1, j, none⟩ (.int .u64 (r : Int))) (.store 22 (.tmp 28) (.tmp 27)) rfl (fun o ho => exec_store_one _ 22 (.tmp 28) (.tmp 27) ho ⟨w.heap.size + 1, j, none⟩ rfl _ rfl rfl rfl _ (HRD.cell j hj4) (HRD.free j) (by kernel_rfl)) ?_ ReadyF.nil)
      refine any_doneF (by kernel_rfl) ?_ _
      have HN := Lib.hid HN9
      clear HN9 HRD HSD hAj hWd HKK HRW
      generalize Wd.setCell ⟨w.heap.size + 1, j, none⟩ (.int .u64 (r : Int)) = W9 at *
      go_wp2
      go_roundw
      case rel => exact ⟨i + 1, by omega, by simp, HN.out⟩
      case measure => simp [intOf]; omega
    · obtain rfl : i = 32 := by omega
      have htk : l.take 32 = l := List.take_of_length_le (by omega)
      rw [htk] at hK
      have hN4 : leVal l < 115792089237316195423570985008687907853269984665640564039457584007913129639936 := by
        have h := leVal_lt l
        rw [hsl] at h
        exact Nat.lt_of_lt_of_le h (by decide)
      have hAN : (rowOf .u64 4 (wordAt l)).toArray = num (leVal l) := by
        rw [← num_val _ (wordAt_lt l), val_words l hsl]
      rw [hAN] at hK
      obtain ⟨A, hAe⟩ : ∃ A, Hid (A = num (leVal l)) := ⟨_, Lib.hid rfl⟩
      have IA : IsNum A := by rw [hAe.out]; exact isNum _
      rw [← hAe.out] at hK
      rw [show ((32 : Nat) : Int) = (32 : Int) from rfl]
      have HK := Lib.hid hK
      have hl1 := HK.out.load (w.heap.size + 1) A (by simp) IA
      have SZ := IZ.size
      clear hK hAN hN4 htk hsl hl
      go_wp2_with (first | (refine wpList_run rfl _ (exec_load_of _ 24 (.tmp 3) rfl ⟨w.heap.size + 1, 0, none⟩ rfl (.agg A) hl1) ?_) | (refine wpList_run0 rfl (exec_store_kn (w0 := w) (l := [(w.heap.size, Z), (w.heap.size + 1, A)]) _ HK.out (.tmp 2) (.tmp 29) rfl (w.heap.size) rfl A IA rfl Z IZ (by simp)) ?_))
      have HS6 : Kn w [(w.heap.size, A)] (World.setRow _ (w.heap.size) A) := HK.out.set (w.heap.size) A Z (HK.out.get (w.heap.size) Z (by simp)) (by omega) (fun p hp => by simp at hp; subst hp; simp)
      exact bodyPost_ret (results_cell rfl _ _ _ ⟨w.heap.size, 0, none⟩ rfl _ (HS6.load (w.heap.size) A (by simp) IA)) rfl ⟨by rw [hAe.out], HS6.1⟩
end Go.Proofs.YtgbliacncahooaaDoor
/- bytes, Bytes, From of the document: the bytes of a number, and the number that bytes say. No condition but that the number has 256 bits, that the text may lie in memory. -/
namespace Go.Proofs.YtgbliacncahooaaDoor
open Go.RowKit Go.Shelf
set_option linter.unusedVariables false
set_option linter.unusedSimpArgs false
theorem exec_len9 {ρ : Operand → Value} {o : Oper} (x : Operand) (ho : o.op = .call { callee := .builtin .len, args := #[x], argTypes := #[9] }) (s : ByteArray) (i : Nat) (hi : s.size = i) (hx : ρ x = .string s) (w : World) : (execOp ρ o).run Tryd.prog w = .ok (.value (.int .i64 (i : Int))) w := by
  subst hi
  unfold execOp
  simp [ho, hx, go_sem]
theorem exec_cat {ρ : Operand → Value} {o : Oper} (x y : Operand) (ho : o.op = .binOp .add 9 x y 9) (S T : ByteArray) (hS : S.size ≤ 1000000) (hT : T.size ≤ 1000000) (hx : ρ x = .string S) (hy : ρ y = .string T) (w : World) : (execOp ρ o).run Tryd.prog w = .ok (.value (.string (S ++ T))) w := by
  have hu := Tryd.underlying9
  have hst : S.size + T.size ≤ 9223372036854775807 := by omega
  unfold execOp
  simp only [ho, hx, hy]
  go_simp
theorem exec_catv {ρ : Operand → Value} {o : Oper} (x y : Operand) (ho : o.op = .binOp .add 9 x y 9) (S T V : ByteArray) (hS : S.size ≤ 1000000) (hT : T.size ≤ 1000000) (hV : S ++ T = V) (hx : ρ x = .string S) (hy : ρ y = .string T) (w : World) : (execOp ρ o).run Tryd.prog w = .ok (.value (.string V)) w := by
  subst hV
  exact exec_cat x y ho S T hS hT hx hy w
def leTo (N i : Nat) : List UInt8 := leW (dig N) ((List.finRange 4).take i)
theorem leTo_length (N i : Nat) (h : i ≤ 4) : (leTo N i).length = 8 * i := by
  unfold leTo
  rw [leW_length, List.length_take, List.length_finRange]
  omega
theorem leTo_step (N i : Nat) (h : i < 4) : leTo N i ++ le8 (dig N i) = leTo N (i + 1) := by
  unfold leTo
  rw [List.take_succ_eq_append_getElem (by rw [List.length_finRange]; exact h), leW_snoc]
  simp
theorem leTo_all (N : Nat) : leTo N 4 = bytesN N := rfl
theorem cat_list (l m : List UInt8) : (⟨l.toArray⟩ : ByteArray) ++ ⟨m.toArray⟩ = ⟨(l ++ m).toArray⟩ := by
  apply ByteArray.ext
  simp
theorem leVal_inj : ∀ l m : List UInt8, l.length = m.length → leVal l = leVal m → l = m
  | [], [], _, _ => rfl
  | [], _ :: _, h, _ => by simp at h
  | _ :: _, [], h, _ => by simp at h
  | x :: l, y :: m, h, e => by
    have hx := x.toNat_lt
    have hy := y.toNat_lt
    simp only [leVal] at e
    have h1 : x.toNat = y.toNat := by omega
    have h2 : leVal l = leVal m := by omega
    rw [UInt8.toNat_inj.1 h1, leVal_inj l m (by simpa using h) h2]
set_option maxRecDepth 100000 in
set_option maxHeartbeats 1000000 in
theorem rbytes0_any (a : Nat) (w : World) :
    Calls Tryd.prog 64 #[.agg (num a)] w fun e w' => e = .returned (.string ⟨(bytesN a).toArray⟩) ∧ Below w.heap.size w w' := by
  obtain ⟨lt, hlt⟩ : ∃ lt, lt = leTo a := ⟨_, rfl⟩
  have hl0 : lt 0 = [] := by rw [hlt]; rfl
  have hl4 : (⟨(lt 4).toArray⟩ : ByteArray) = ⟨(bytesN a).toArray⟩ := by rw [hlt]; rfl
  have hll : ∀ i, i ≤ 4 → (lt i).length = 8 * i := fun i h => by rw [hlt]; exact leTo_length _ i h
  have hls : ∀ i, i < 4 → lt i ++ le8 (dig a i) = lt (i + 1) := fun i h => by rw [hlt]; exact leTo_step _ i h
  obtain ⟨SB, hSB⟩ : ∃ SB : ByteArray, Hid (SB = ⟨(bytesN a).toArray⟩) := ⟨_, Lib.hid rfl⟩
  rw [← hSB.out] at hl4
  obtain ⟨A, hA⟩ : ∃ A, Hid (A = num a) := ⟨_, Lib.hid rfl⟩
  have hdig : ∀ i, i < 4 → A[i]? = some (.int .u64 (dig a i : Int)) := fun i h => by rw [hA.out, num_get a i h]
  rw [← hA.out, ← hSB.out]
  clear hlt hA hSB
  have HS : Hid (Kn w [(w.heap.size, A)] (w.alloc (.cells A 24))) := Lib.hid ((Kn.nil w).new A)
  go_enter Tryd.func64, Tryd.ntmps64
  go_wp2
  generalize w.alloc (.cells A 24) = W0 at *
  go_loopw [3, 4] (fun x y wr => ∃ i : Nat, i ≤ 4 ∧ x = .string ⟨(lt i).toArray⟩ ∧ y = .int .i64 i ∧ Kn w [(w.heap.size, A)] wr) (fun _ y _ => 4 - (intOf y).toNat)
  case atStart => exact ⟨0, by omega, by rw [hl0], rfl, HS.out⟩
  case round =>
    clear HS
    obtain ⟨i, hi, rfl, rfl, hK⟩ := hrel
    have HK := Lib.hid hK
    clear hK
    by_cases hlt : i < 4
    · have hltI : (i : Int) < 4 := by omega
      have hc0 := (HK.out.cell (w.heap.size) A (by simp) i).trans (hdig i hlt)
      have H5 := Lib.hid (Little_any (dig a i))
      have hs5 := hls i hlt
      have hl5 := hll i hi
      have hcs : ((⟨(lt i).toArray⟩ : ByteArray) ++ ⟨(le8 (dig a i)).toArray⟩) = ⟨(lt (i + 1)).toArray⟩ := by rw [cat_list, hs5]
      have hsz1 : (⟨(lt i).toArray⟩ : ByteArray).size ≤ 1000000 := by show (lt i).length ≤ _; omega
      have hsz2 : (⟨(le8 (dig a i)).toArray⟩ : ByteArray).size ≤ 1000000 := by show (le8 (dig a i)).length ≤ _; rw [le8_length]; omega
      generalize (⟨(lt i).toArray⟩ : ByteArray) = S at *
      generalize (⟨(le8 (dig a i)).toArray⟩ : ByteArray) = T at *
      generalize hS1 : (⟨(lt (i + 1)).toArray⟩ : ByteArray) = S1 at *
      generalize dig a i = x at *
      clear hs5 hl5
      go_wp2_with (first | (refine wpList_run rfl _ (exec_indexAddr24 (.tmp 1) (.tmp 10) rfl (w.heap.size) i rfl rfl hlt _) ?_) | (refine wpList_run rfl _ (exec_load_one _ 22 (.tmp 11) rfl ⟨w.heap.size, i, none⟩ rfl _ hc0 _ Tryd.underlying22 rfl) ?_))
      refine (H5.out _).mono ?_
      rintro e w5 ⟨rfl, hb⟩
      have HK2 := Lib.hid (HK.out.below hb)
      clear hb HK H5
      clear hc0
      go_wp2_with (refine wpList_run rfl _ (exec_catv (.tmp 9) (.tmp 13) rfl S T S1 hsz1 hsz2 hcs rfl rfl _) ?_)
      go_roundw
      case rel => exact ⟨i + 1, by omega, by rw [hS1], by first | rfl | simp | go_num, HK2.out⟩
      case measure => simp [intOf]; omega
    · obtain rfl : i = 4 := by omega
      rw [hl4]
      rw [show ((4 : Nat) : Int) = (4 : Int) from rfl]
      clear hl4 hl0 hll hls hdig hlt hi
      go_wp2
      go_ret
      exact ⟨rfl, HK.out.1⟩
set_option maxRecDepth 100000 in
set_option maxHeartbeats 1000000 in
theorem rbytes_any (a : Nat) (ha : a < 115792089237316195423570985008687907853269984665640564039457584007913129639936) (w : World) :
    Calls Tryd.prog 42 #[.agg (num a)] w fun e w' => e = .returned (.string ⟨(bytesN (a % pp)).toArray⟩) ∧ Below w.heap.size w w' := by
  have H1 := Lib.hid (rnorm_any a ha)
  have H2 := Lib.hid (rbytes0_any (a % pp))
  obtain ⟨SB, hSB⟩ : ∃ SB : ByteArray, Hid (SB = ⟨(bytesN (a % pp)).toArray⟩) := ⟨_, Lib.hid rfl⟩
  clear ha
  obtain ⟨A, hA⟩ : ∃ A, Hid (A = num a) := ⟨_, Lib.hid rfl⟩
  have IA : IsNum A := by rw [hA.out]; exact isNum _
  obtain ⟨N, hN⟩ : ∃ N, Hid (N = num (a % pp)) := ⟨_, Lib.hid rfl⟩
  have IN : IsNum N := by rw [hN.out]; exact isNum _
  rw [← hA.out, ← hN.out] at H1
  rw [← hN.out, ← hSB.out] at H2
  rw [← hA.out, ← hSB.out]
  clear hA hN hSB
  have HS : Hid (Kn w [(w.heap.size, A)] (w.alloc (.cells A 24))) := Lib.hid ((Kn.nil w).new A)
  go_enter Tryd.func42, Tryd.ntmps42
  go_upto_region 1 with fail
  try simp only [Act.put, sT, sS, sZ]
  generalize w.alloc (.cells A 24) = W0 at *
  have hl1 := HS.out.load (w.heap.size) A (by simp) IA
  go_wp2_with (refine wpList_run rfl _ (exec_load_of _ 24 (.tmp 1) rfl ⟨w.heap.size, 0, none⟩ rfl (.agg A) hl1) ?_)
  clear hl1
  refine (H1.out _).mono ?_
  rintro e w2 ⟨rfl, hb⟩
  have HS3 := Lib.hid (HS.out.below hb)
  clear hb HS H1
  go_wp2_with fail
  refine (H2.out _).mono ?_
  rintro e w4 ⟨rfl, hb⟩
  have HS5 := Lib.hid (HS3.out.below hb)
  clear hb HS3 H2
  go_wp2
  go_ret
  exact ⟨rfl, HS5.out.1⟩
theorem bytes_inj_le (s : ByteArray) (h : s.size = 32) : (⟨(bytesN (leVal s.data.toList % pp)).toArray⟩ : ByteArray) = s ↔ leVal s.data.toList < pp := by
  have hsl : s.data.toList.length = 32 := h
  have hl := leVal_lt s.data.toList
  rw [hsl] at hl
  have hl4 : leVal s.data.toList < 115792089237316195423570985008687907853269984665640564039457584007913129639936 := Nat.lt_of_lt_of_le hl (by decide)
  constructor
  · intro e
    have e2 := congrArg (fun b : ByteArray => leVal b.data.toList) e
    simp only [List.toList_toArray] at e2
    rw [leVal_bytesN _ (pp_lt (Nat.mod_lt _ pp_pos))] at e2
    rw [← e2]
    exact Nat.mod_lt _ pp_pos
  · intro e
    rw [Nat.mod_eq_of_lt e]
    have e2 : bytesN (leVal s.data.toList) = s.data.toList := leVal_inj _ _ (by rw [bytesN_length, hsl]) (leVal_bytesN _ hl4)
    rw [e2]
end Go.Proofs.YtgbliacncahooaaDoor
/- What the written walks use: a call, a new block, entering each function, numbers that are one. No condition but what each names. -/
namespace Go.Proofs.YtgbliacncahooaaDoor
open Go.RowKit Go.Shelf
set_option linter.unusedVariables false
set_option linter.unusedSimpArgs false
/-- A call of a function, by what it is known to do. -/
theorem wpList_callF {P : Program} {ops : Array Oper} {rest : List Oper} {o : Oper} {a : Act} {w : World} {Q : Exit → Act → World → Prop} (hgd : o.guard = none) (g : FuncId) (args : Array Operand) (tys : Array TypeId) (ho : o.op = .call { callee := .value (.func g), args := args, argTypes := tys })
    (avs : Array Value) (eg : ∀ args w, (callFunc g args).run P w = .ok (.enter g args) w) {R : Ending → World → Prop} (hc : Calls P g avs w R)
    (hK : ∀ v w', R (.returned v) w' → wpList P ops Q rest (a.put o.dst v) w') (has : args.map a.eval = avs := by simp [Act.eval]) (hnp : ∀ c w', ¬ R (.panicked c) w' := by exact fun c w' h => by cases h.1) (hno : ∀ w', ¬ R .outgrown w' := by exact fun w' h => by cases h.1) : wpList P ops Q (o :: rest) a w := by
  refine wpList_plain hgd fun K hK2 => ?_
  have hev : a.eval (.func g) = .func (.func g) #[] #[] := rfl
  have hres : (resolve a.eval { callee := .value (.func g), args := args, argTypes := tys } o.type).run P w = .ok { target := .fn (.func g) #[], args := avs } w := by
    simp [resolve, hev, has, Deferred.ofValue]
  have hx : (execOp a.eval o).run P w = .ok (.enter g avs) w := by
    unfold execOp
    simp only [ho, Sem.run_bind, hres, Result.andThen_ok, invoke]
    simp [eg]
  unfold Oper.wp
  rw [hx]
  refine hc.mono ?_
  intro e w' hr
  cases e with
  | returned v => exact hK2 _ _ (hK v w' hr)
  | panicked c => exact (hnp c w' hr).elim
  | outgrown => exact (hno w' hr).elim
section
variable {P : Program} {ops : Array Oper} {Q : Exit → Act → World → Prop} {md : Region.Mode} {S : World → Prop} {f : Nat}
/-- What several orders come to, proved once. -/
theorem F_have {n0 : Nat} {l0 : Array Bool} {a0 : Act} {w0 : World} (n : Nat) (l : Array Bool) (R : Act → World → Prop) (hJ : ∀ a w, R a w → AnyF P md ops Q S f n l a w) (h : (∀ a w, R a w → AnyF P md ops Q S f n l a w) → AnyF P md ops Q S f n0 l0 a0 w0) : AnyF P md ops Q S f n0 l0 a0 w0 := h hJ
theorem F_to {n n2 : Nat} {l l2 : Array Bool} {a : Act} {w : World} (hn : n2 = n) (hl : l2 = l) (h : AnyF P md ops Q S f n l a w) : AnyF P md ops Q S f n2 l2 a w := by
  subst hn hl
  exact h
end
theorem exec_box {P : Program} {ρ : Operand → Value} {o : Oper} (w : World) (t : TypeId) (x : Operand) (ho : o.op = .box t x) (v : Value) (hx : ρ x = v) (A : Array Value) (hA : v.cells = A) :
    (execOp ρ o).run P w = .ok (.value (.pointer (some ⟨w.heap.size, 0, none⟩))) (w.alloc (.cells A t)) := by
  subst hx hA
  unfold execOp
  simp only [ho, Instr.box, Sem.run_bind, newVar, newRow, run_newObj_alloc, Sem.run_pure, Result.andThen_ok]
theorem loadA24 {W : World} {g : Nat} {A : Array Value} (hA : IsNum A) {t : TypeId} (hg : W.heap[g]? = some (.cells A t (0, 0))) : (loadVar 24 ⟨g, 0, none⟩).run Tryd.prog W = .ok (.agg A) W := load_part hg hA 0 (part_all A)
theorem lt64 (k : Nat) (h : k < 18446744073709551616) : k < 115792089237316195423570985008687907853269984665640564039457584007913129639936 := by omega
theorem dN_b4 : dN < 115792089237316195423570985008687907853269984665640564039457584007913129639936 := by rw [dN_val]; decide
theorem pp_b4 : pp < 115792089237316195423570985008687907853269984665640564039457584007913129639936 := by decide
theorem base1_b4 : baseN.1 < 115792089237316195423570985008687907853269984665640564039457584007913129639936 := by decide
theorem base2_b4 : baseN.2 < 115792089237316195423570985008687907853269984665640564039457584007913129639936 := by decide
theorem exec_eqA {ρ : Operand → Value} {o : Oper} (x y : Operand) (ho : o.op = .binOp .eql 24 x y 24) (A : Array Value) (hA : IsNum A) (hx : ρ x = .agg A) (hy : ρ y = .agg A) (w : World) :
    (execOp ρ o).run Tryd.prog w = .ok (.value (.bool true)) w := by
  obtain ⟨f, rfl⟩ := hA
  unfold execOp
  rw [ho]
  simp only [hx, hy]
  have hl : (rowOf .u64 4 f).toArray = #[.int .u64 (f 0 : Int), .int .u64 (f 1 : Int), .int .u64 (f 2 : Int), .int .u64 (f 3 : Int)] := rfl
  have h := eq24 (f 0) (f 1) (f 2) (f 3) (f 0) (f 1) (f 2) (f 3) w
  simp only [decide_true, Bool.and_self] at h
  go_simp
theorem en3 : ∀ args w, (callFunc 3 args).run Tryd.prog w = .ok (.enter 3 args) w := enters_of Tryd.func3 (by kernel_rfl) rfl
theorem en4 : ∀ args w, (callFunc 4 args).run Tryd.prog w = .ok (.enter 4 args) w := enters_of Tryd.func4 (by kernel_rfl) rfl
theorem en5 : ∀ args w, (callFunc 5 args).run Tryd.prog w = .ok (.enter 5 args) w := enters_of Tryd.func5 (by kernel_rfl) rfl
theorem en6 : ∀ args w, (callFunc 6 args).run Tryd.prog w = .ok (.enter 6 args) w := enters_of Tryd.func6 (by kernel_rfl) rfl
theorem en7 : ∀ args w, (callFunc 7 args).run Tryd.prog w = .ok (.enter 7 args) w := enters_of Tryd.func7 (by kernel_rfl) rfl
theorem en8 : ∀ args w, (callFunc 8 args).run Tryd.prog w = .ok (.enter 8 args) w := enters_of Tryd.func8 (by kernel_rfl) rfl
theorem en9 : ∀ args w, (callFunc 9 args).run Tryd.prog w = .ok (.enter 9 args) w := enters_of Tryd.func9 (by kernel_rfl) rfl
theorem en10 : ∀ args w, (callFunc 10 args).run Tryd.prog w = .ok (.enter 10 args) w := enters_of Tryd.func10 (by kernel_rfl) rfl
theorem en11 : ∀ args w, (callFunc 11 args).run Tryd.prog w = .ok (.enter 11 args) w := enters_of Tryd.func11 (by kernel_rfl) rfl
theorem en12 : ∀ args w, (callFunc 12 args).run Tryd.prog w = .ok (.enter 12 args) w := enters_of Tryd.func12 (by kernel_rfl) rfl
theorem en13 : ∀ args w, (callFunc 13 args).run Tryd.prog w = .ok (.enter 13 args) w := enters_of Tryd.func13 (by kernel_rfl) rfl
theorem en14 : ∀ args w, (callFunc 14 args).run Tryd.prog w = .ok (.enter 14 args) w := enters_of Tryd.func14 (by kernel_rfl) rfl
theorem en15 : ∀ args w, (callFunc 15 args).run Tryd.prog w = .ok (.enter 15 args) w := enters_of Tryd.func15 (by kernel_rfl) rfl
theorem en16 : ∀ args w, (callFunc 16 args).run Tryd.prog w = .ok (.enter 16 args) w := enters_of Tryd.func16 (by kernel_rfl) rfl
theorem en17 : ∀ args w, (callFunc 17 args).run Tryd.prog w = .ok (.enter 17 args) w := enters_of Tryd.func17 (by kernel_rfl) rfl
theorem en18 : ∀ args w, (callFunc 18 args).run Tryd.prog w = .ok (.enter 18 args) w := enters_of Tryd.func18 (by kernel_rfl) rfl
theorem en19 : ∀ args w, (callFunc 19 args).run Tryd.prog w = .ok (.enter 19 args) w := enters_of Tryd.func19 (by kernel_rfl) rfl
theorem en20 : ∀ args w, (callFunc 20 args).run Tryd.prog w = .ok (.enter 20 args) w := enters_of Tryd.func20 (by kernel_rfl) rfl
theorem en21 : ∀ args w, (callFunc 21 args).run Tryd.prog w = .ok (.enter 21 args) w := enters_of Tryd.func21 (by kernel_rfl) rfl
theorem en22 : ∀ args w, (callFunc 22 args).run Tryd.prog w = .ok (.enter 22 args) w := enters_of Tryd.func22 (by kernel_rfl) rfl
theorem en23 : ∀ args w, (callFunc 23 args).run Tryd.prog w = .ok (.enter 23 args) w := enters_of Tryd.func23 (by kernel_rfl) rfl
theorem en24 : ∀ args w, (callFunc 24 args).run Tryd.prog w = .ok (.enter 24 args) w := enters_of Tryd.func24 (by kernel_rfl) rfl
theorem en25 : ∀ args w, (callFunc 25 args).run Tryd.prog w = .ok (.enter 25 args) w := enters_of Tryd.func25 (by kernel_rfl) rfl
theorem en26 : ∀ args w, (callFunc 26 args).run Tryd.prog w = .ok (.enter 26 args) w := enters_of Tryd.func26 (by kernel_rfl) rfl
theorem en27 : ∀ args w, (callFunc 27 args).run Tryd.prog w = .ok (.enter 27 args) w := enters_of Tryd.func27 (by kernel_rfl) rfl
theorem en28 : ∀ args w, (callFunc 28 args).run Tryd.prog w = .ok (.enter 28 args) w := enters_of Tryd.func28 (by kernel_rfl) rfl
theorem en29 : ∀ args w, (callFunc 29 args).run Tryd.prog w = .ok (.enter 29 args) w := enters_of Tryd.func29 (by kernel_rfl) rfl
theorem en30 : ∀ args w, (callFunc 30 args).run Tryd.prog w = .ok (.enter 30 args) w := enters_of Tryd.func30 (by kernel_rfl) rfl
theorem en31 : ∀ args w, (callFunc 31 args).run Tryd.prog w = .ok (.enter 31 args) w := enters_of Tryd.func31 (by kernel_rfl) rfl
theorem en32 : ∀ args w, (callFunc 32 args).run Tryd.prog w = .ok (.enter 32 args) w := enters_of Tryd.func32 (by kernel_rfl) rfl
theorem en33 : ∀ args w, (callFunc 33 args).run Tryd.prog w = .ok (.enter 33 args) w := enters_of Tryd.func33 (by kernel_rfl) rfl
theorem en34 : ∀ args w, (callFunc 34 args).run Tryd.prog w = .ok (.enter 34 args) w := enters_of Tryd.func34 (by kernel_rfl) rfl
theorem en35 : ∀ args w, (callFunc 35 args).run Tryd.prog w = .ok (.enter 35 args) w := enters_of Tryd.func35 (by kernel_rfl) rfl
theorem en36 : ∀ args w, (callFunc 36 args).run Tryd.prog w = .ok (.enter 36 args) w := enters_of Tryd.func36 (by kernel_rfl) rfl
theorem en37 : ∀ args w, (callFunc 37 args).run Tryd.prog w = .ok (.enter 37 args) w := enters_of Tryd.func37 (by kernel_rfl) rfl
theorem en38 : ∀ args w, (callFunc 38 args).run Tryd.prog w = .ok (.enter 38 args) w := enters_of Tryd.func38 (by kernel_rfl) rfl
theorem en39 : ∀ args w, (callFunc 39 args).run Tryd.prog w = .ok (.enter 39 args) w := enters_of Tryd.func39 (by kernel_rfl) rfl
theorem en40 : ∀ args w, (callFunc 40 args).run Tryd.prog w = .ok (.enter 40 args) w := enters_of Tryd.func40 (by kernel_rfl) rfl
theorem en41 : ∀ args w, (callFunc 41 args).run Tryd.prog w = .ok (.enter 41 args) w := enters_of Tryd.func41 (by kernel_rfl) rfl
theorem en42 : ∀ args w, (callFunc 42 args).run Tryd.prog w = .ok (.enter 42 args) w := enters_of Tryd.func42 (by kernel_rfl) rfl
theorem en43 : ∀ args w, (callFunc 43 args).run Tryd.prog w = .ok (.enter 43 args) w := enters_of Tryd.func43 (by kernel_rfl) rfl
theorem en44 : ∀ args w, (callFunc 44 args).run Tryd.prog w = .ok (.enter 44 args) w := enters_of Tryd.func44 (by kernel_rfl) rfl
theorem en45 : ∀ args w, (callFunc 45 args).run Tryd.prog w = .ok (.enter 45 args) w := enters_of Tryd.func45 (by kernel_rfl) rfl
theorem en46 : ∀ args w, (callFunc 46 args).run Tryd.prog w = .ok (.enter 46 args) w := enters_of Tryd.func46 (by kernel_rfl) rfl
theorem en47 : ∀ args w, (callFunc 47 args).run Tryd.prog w = .ok (.enter 47 args) w := enters_of Tryd.func47 (by kernel_rfl) rfl
theorem en48 : ∀ args w, (callFunc 48 args).run Tryd.prog w = .ok (.enter 48 args) w := enters_of Tryd.func48 (by kernel_rfl) rfl
theorem en49 : ∀ args w, (callFunc 49 args).run Tryd.prog w = .ok (.enter 49 args) w := enters_of Tryd.func49 (by kernel_rfl) rfl
theorem en50 : ∀ args w, (callFunc 50 args).run Tryd.prog w = .ok (.enter 50 args) w := enters_of Tryd.func50 (by kernel_rfl) rfl
theorem en51 : ∀ args w, (callFunc 51 args).run Tryd.prog w = .ok (.enter 51 args) w := enters_of Tryd.func51 (by kernel_rfl) rfl
theorem en52 : ∀ args w, (callFunc 52 args).run Tryd.prog w = .ok (.enter 52 args) w := enters_of Tryd.func52 (by kernel_rfl) rfl
theorem en53 : ∀ args w, (callFunc 53 args).run Tryd.prog w = .ok (.enter 53 args) w := enters_of Tryd.func53 (by kernel_rfl) rfl
theorem en54 : ∀ args w, (callFunc 54 args).run Tryd.prog w = .ok (.enter 54 args) w := enters_of Tryd.func54 (by kernel_rfl) rfl
theorem en55 : ∀ args w, (callFunc 55 args).run Tryd.prog w = .ok (.enter 55 args) w := enters_of Tryd.func55 (by kernel_rfl) rfl
theorem en56 : ∀ args w, (callFunc 56 args).run Tryd.prog w = .ok (.enter 56 args) w := enters_of Tryd.func56 (by kernel_rfl) rfl
theorem en57 : ∀ args w, (callFunc 57 args).run Tryd.prog w = .ok (.enter 57 args) w := enters_of Tryd.func57 (by kernel_rfl) rfl
theorem en58 : ∀ args w, (callFunc 58 args).run Tryd.prog w = .ok (.enter 58 args) w := enters_of Tryd.func58 (by kernel_rfl) rfl
theorem en59 : ∀ args w, (callFunc 59 args).run Tryd.prog w = .ok (.enter 59 args) w := enters_of Tryd.func59 (by kernel_rfl) rfl
theorem en60 : ∀ args w, (callFunc 60 args).run Tryd.prog w = .ok (.enter 60 args) w := enters_of Tryd.func60 (by kernel_rfl) rfl
theorem en61 : ∀ args w, (callFunc 61 args).run Tryd.prog w = .ok (.enter 61 args) w := enters_of Tryd.func61 (by kernel_rfl) rfl
theorem en62 : ∀ args w, (callFunc 62 args).run Tryd.prog w = .ok (.enter 62 args) w := enters_of Tryd.func62 (by kernel_rfl) rfl
theorem en63 : ∀ args w, (callFunc 63 args).run Tryd.prog w = .ok (.enter 63 args) w := enters_of Tryd.func63 (by kernel_rfl) rfl
theorem en64 : ∀ args w, (callFunc 64 args).run Tryd.prog w = .ok (.enter 64 args) w := enters_of Tryd.func64 (by kernel_rfl) rfl
theorem en65 : ∀ args w, (callFunc 65 args).run Tryd.prog w = .ok (.enter 65 args) w := enters_of Tryd.func65 (by kernel_rfl) rfl
theorem en66 : ∀ args w, (callFunc 66 args).run Tryd.prog w = .ok (.enter 66 args) w := enters_of Tryd.func66 (by kernel_rfl) rfl
theorem en67 : ∀ args w, (callFunc 67 args).run Tryd.prog w = .ok (.enter 67 args) w := enters_of Tryd.func67 (by kernel_rfl) rfl
theorem en68 : ∀ args w, (callFunc 68 args).run Tryd.prog w = .ok (.enter 68 args) w := enters_of Tryd.func68 (by kernel_rfl) rfl
theorem en70 : ∀ args w, (callFunc 70 args).run Tryd.prog w = .ok (.enter 70 args) w := enters_of Tryd.func70 (by kernel_rfl) rfl
theorem en71 : ∀ args w, (callFunc 71 args).run Tryd.prog w = .ok (.enter 71 args) w := enters_of Tryd.func71 (by kernel_rfl) rfl
theorem en74 : ∀ args w, (callFunc 74 args).run Tryd.prog w = .ok (.enter 74 args) w := enters_of Tryd.func74 (by kernel_rfl) rfl
theorem en75 : ∀ args w, (callFunc 75 args).run Tryd.prog w = .ok (.enter 75 args) w := enters_of Tryd.func75 (by kernel_rfl) rfl
theorem en76 : ∀ args w, (callFunc 76 args).run Tryd.prog w = .ok (.enter 76 args) w := enters_of Tryd.func76 (by kernel_rfl) rfl
end Go.Proofs.YtgbliacncahooaaDoor
/- The 256 bits of a number, the highest first, and the number that they say; points with a denominator as rows of numbers. No condition but what each names. -/
namespace Go.Proofs.YtgbliacncahooaaDoor
open Go.RowKit
set_option linter.unusedVariables false
def bitB (n k : Nat) : Bool := decide (0 < n / 2 ^ k % 2)
/-- The first m bits. -/
def bitsTo (n m : Nat) : List Bool := (List.range m).map fun j => bitB n (255 - j)
theorem bitsTo_length (n m : Nat) : (bitsTo n m).length = m := by simp [bitsTo]
theorem bitsTo_succ (n m : Nat) : bitsTo n (m + 1) = bitsTo n m ++ [bitB n (255 - m)] := by simp [bitsTo, List.range_succ]
theorem bitB_nat (n k : Nat) : (bitB n k).toNat = n / 2 ^ k % 2 := by
  unfold bitB
  rcases Nat.mod_two_eq_zero_or_one (n / 2 ^ k) with h | h <;> rw [h] <;> rfl
theorem half_up (n k : Nat) : 2 * (n / 2 ^ (k + 1)) + n / 2 ^ k % 2 = n / 2 ^ k := by
  rw [Nat.pow_succ, ← Nat.div_div_eq_div_mul]
  omega
theorem hvB_to (n : Nat) (h0 : n / 2 ^ 256 = 0) : ∀ m, m ≤ 256 → hvB (bitsTo n m) = n / 2 ^ (256 - m)
  | 0, _ => by rw [Nat.sub_zero, h0]; rfl
  | m + 1, hm => by
    rw [bitsTo_succ, hvB_snoc, hvB_to n h0 m (by omega), bitB_nat]
    have h := half_up n (255 - m)
    rw [show 255 - m + 1 = 256 - m by omega] at h
    rw [h, show 255 - m = 256 - (m + 1) by omega]
theorem hvB_all (n : Nat) (hn : n < 115792089237316195423570985008687907853269984665640564039457584007913129639936) : hvB (bitsTo n 256) = n := by
  rw [hvB_to n (Nat.div_eq_of_lt hn) 256 (Nat.le_refl _), Nat.sub_self, Nat.pow_zero, Nat.div_one]
def threeV (t : Nat × Nat × Nat) : Array Value := num t.1 ++ num t.2.1 ++ num t.2.2
theorem threeV_rw (t : Nat × Nat × Nat) : IsRw 12 (threeV t) := rw_app (rw_app (isRw4 (isNum _)) (isRw4 (isNum _))) (isRw4 (isNum _))
def ratV (r : Rat4) : Array Value := num r.1 ++ num r.2.1 ++ num r.2.2.1 ++ num r.2.2.2
theorem ratV_rw (r : Rat4) : IsRw 16 (ratV r) := rw_app (rw_app (rw_app (isRw4 (isNum _)) (isRw4 (isNum _))) (isRw4 (isNum _))) (isRw4 (isNum _))
def ptV (p : Nat × Nat) : Array Value := num p.1 ++ num p.2
theorem ptV_rw (p : Nat × Nat) : IsRw 8 (ptV p) := rw_app (isRw4 (isNum _)) (isRw4 (isNum _))
def B3 (t : Nat × Nat × Nat) : Prop := t.1 < 115792089237316195423570985008687907853269984665640564039457584007913129639936 ∧ t.2.1 < 115792089237316195423570985008687907853269984665640564039457584007913129639936 ∧ t.2.2 < 115792089237316195423570985008687907853269984665640564039457584007913129639936
def B4r (t : Rat4) : Prop := t.1 < 115792089237316195423570985008687907853269984665640564039457584007913129639936 ∧ t.2.1 < 115792089237316195423570985008687907853269984665640564039457584007913129639936 ∧ t.2.2.1 < 115792089237316195423570985008687907853269984665640564039457584007913129639936 ∧ t.2.2.2 < 115792089237316195423570985008687907853269984665640564039457584007913129639936
theorem plusN_b3 (t u : Nat × Nat × Nat) : B3 (plusN t u) := ⟨pp_lt (mulF_lt _ _), pp_lt (mulF_lt _ _), pp_lt (mulF_lt _ _)⟩
theorem sumR_b4 (t u : Rat4) : B4r (sumR t u) := ⟨pp_lt (mulF_lt _ _), pp_lt (mulF_lt _ _), pp_lt (mulF_lt _ _), pp_lt (mulF_lt _ _)⟩
theorem overR_b4 {p : Nat × Nat} (hp : onN p) : B4r (overR p) := ⟨pp_lt hp.1, pp_lt hp.2.1, by show 1 < _; decide, pp_lt (mulF_lt _ _)⟩
theorem one_b3 {p : Nat × Nat} (hp : onN p) : B3 (p.1, p.2, 1) := ⟨pp_lt hp.1, pp_lt hp.2.1, by show 1 < _; decide⟩
theorem fastN_b3 (p : Nat × Nat) (l : List Bool) : B3 (fastN p l) := by
  obtain ⟨m, hm⟩ : ∃ m, m = l.reverse := ⟨_, rfl⟩
  have hl : l = m.reverse := by rw [hm, List.reverse_reverse]
  subst hl
  cases m with
  | nil => exact ⟨by show (0 : Nat) < _; decide, by show (1 : Nat) < _; decide, by show (1 : Nat) < _; decide⟩
  | cons b m =>
    rw [List.reverse_cons, fastN_snoc]
    cases b <;> exact plusN_b3 _ _
theorem fastR_b4 (p : Nat × Nat) (l : List Bool) : B4r (fastR p l) := by
  obtain ⟨m, hm⟩ : ∃ m, m = l.reverse := ⟨_, rfl⟩
  have hl : l = m.reverse := by rw [hm, List.reverse_reverse]
  subst hl
  cases m with
  | nil => exact overR_b4 noneN_on
  | cons b m =>
    rw [List.reverse_cons, fastR_snoc]
    cases b <;> exact sumR_b4 _ _
end Go.Proofs.YtgbliacncahooaaDoor
