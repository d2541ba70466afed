/- Several texts, one behind the other; each says by itself what it proves, and on what conditions. -/
import Derived.Test.YtdajmekliodmcaaGreatDoorRows
import Derived.WalkKit
import Derived.WalkSpells
import Derived.WalkLawsBesides
import Derived.Handy
import Derived.Lib.Hide
import Derived.RegionTactic
import Derived.Maps.AppendAt
import Derived.Outline
import Derived.BigQuiet
import Derived.Deep.QuietTactic
import Derived.OneCell
/- Laws on operations over rows of cells, as the later texts use them: a whole aggregate read out of a row, stored into it, an append of one element, one step of a region that draws its order. No condition but what each law names. -/
namespace Go.Proofs.YtdajmekliodmcaaGreatDoor.P8
open Go.RowKit
set_option linter.unusedVariables false
set_option linter.unusedSimpArgs false

section
variable {P : Program}

theorem addr_add (g o j : Nat) : (⟨g, o, none⟩ : Addr).add j = ⟨g, o + j, none⟩ := by unfold Addr.add; split <;> simp_all

/-- A whole aggregate read out of the middle of a block. -/
theorem run_loadVar_seg (w : World) (ty : TypeId) (g off : Nat) (cs : List Value) (d : TypeDesc) (hc : ∀ j v, cs[j]? = some v → w.cell? ⟨g, off + j, none⟩ = some v)
    (hu : P.underlying ty = some d) (hd : (match d with | .struct _ | .array _ _ => true | _ => false) = true) (hi : (P.info? ty).map (·.size) = some cs.length) :
    (loadVar ty ⟨g, off, none⟩).run P w = .ok (.agg cs.toArray) w := by
  have hl : (loadCells ⟨g, off, none⟩ cs.length).run P w = .ok cs.toArray w :=
    run_loadCells_list (P := P) w ⟨g, off, none⟩ cs (fun j v hv => by rw [addr_add]; exact hc j v hv)
  cases hq : P.info? ty with
  | none => simp [hq] at hi
  | some i =>
    have hs : i.size = cs.length := by simpa [hq] using hi
    have hagg : (isAgg ty).run P w = .ok true w := by
      unfold isAgg
      rw [Sem.run_bind, run_underlying hu w]
      cases d <;> simp_all
    simp [loadVar, Sem.run_bind, hagg, sizeOf, typeInfo, hq, hs, hl]

/-- What a row's cells are behind a store of cs at off. -/
def splice (cur : Array Value) (off : Nat) (cs : List Value) : Array Value := (cur.toList.take off ++ cs ++ cur.toList.drop (off + cs.length)).toArray

theorem run_storeVar_seg (w : World) (ty : TypeId) (g off : Nat) (cur : Array Value) (t : TypeId) (cs : List Value) (hg : w.heap[g]? = some (.cells cur t (0, 0))) (hfit : off + cs.length ≤ cur.size)
    (h1 : ∀ v ∈ cs, v.oneCell' = true) (hi : (P.info? ty).map (·.size) = some cs.length) :
    (storeVar ty ⟨g, off, none⟩ (.agg cs.toArray)).run P w = .ok () (w.setRow g (splice cur off cs)) := by
  have hst := run_storeCells_at P g off t cs 0 cur w hg (by simpa using hfit) h1
  cases hq : P.info? ty with
  | none => simp [hq] at hi
  | some i =>
    have hs : i.size = cs.length := by simpa [hq] using hi
    simp only [Nat.add_zero] at hst
    simp [storeVar, sizeOf, typeInfo, hq, hs, Value.cells, hst, splice]

/-- Whatever one operation comes to, told beforehand. -/
theorem wpList_run {ops : Array Oper} {rest : List Oper} {o : Oper} {a : Act} {w w2 : World} {Q : Exit → Act → World → Prop} (hgd : o.guard = none) (v : Value)
    (hrun : (execOp a.eval o).run P w = .ok (.value v) w2) (h : wpList P ops Q rest (a.put o.dst v) w2) : wpList P ops Q (o :: rest) a w :=
  wpList_plain hgd fun K hK => by unfold Oper.wp; rw [hrun]; exact hK _ _ h

theorem wpList_run0 {ops : Array Oper} {rest : List Oper} {o : Oper} {a : Act} {w w2 : World} {Q : Exit → Act → World → Prop} (hgd : o.guard = none)
    (hrun : (execOp a.eval o).run P w = .ok .skip w2) (h : wpList P ops Q rest (a.put o.dst undef) w2) : wpList P ops Q (o :: rest) a w :=
  wpList_plain hgd fun K hK => by unfold Oper.wp; rw [hrun]; exact hK _ _ h

theorem exec_build1 {ρ : Operand → Value} {o : Oper} (w : World) (t : TypeId) (k : Nat) (x : Operand) (ho : o.op = .build t #[(k, x)]) (u : Value) (hx : ρ x = u) (v : Value)
    (hrun : (Instr.build t #[(k, u)]).run P w = .ok v w) : (execOp ρ o).run P w = .ok (.value v) w := by
  subst hx
  unfold execOp
  simp [ho, hrun]

theorem exec_store_seg {ρ : Operand → Value} {o : Oper} (w : World) (ty : TypeId) (x y : Operand) (ho : o.op = .store ty x y)
    (g off : Nat) (hx : ρ x = .pointer (some ⟨g, off, none⟩)) (cs : List Value) (hy : ρ y = .agg cs.toArray) (cur : Array Value) (t : TypeId) (hg : w.heap[g]? = some (.cells cur t (0, 0))) (hfit : off + cs.length ≤ cur.size)
    (h1 : ∀ v ∈ cs, v.oneCell' = true) (hi : (P.info? ty).map (·.size) = some cs.length) :
    (execOp ρ o).run P w = .ok .skip (w.setRow g (splice cur off cs)) := by
  unfold execOp
  simp only [ho, hx, hy, Instr.storeAt, Instr.sureAddr, Sem.run_bind, Sem.run_pure, Result.andThen_ok, run_storeVar_seg w ty g off cur t cs hg hfit h1 hi]

/-- A new variable of an aggregate's type. -/
theorem exec_alloc_agg {ρ : Operand → Value} {o : Oper} (w : World) (ty : TypeId) (ho : o.op = .alloc ty) (cs : Array Value) (hz : (zeroValue ty).run P w = .ok (.agg cs) w) :
    (execOp ρ o).run P w = .ok (.value (.pointer (some ⟨w.heap.size, 0, none⟩))) (w.alloc (.cells cs ty)) := by
  unfold execOp
  simp only [ho, Instr.alloc, Sem.run_bind, hz, Result.andThen_ok, newVar, newRow, Value.cells, run_newObj_alloc, Sem.run_pure]

theorem setRow_alloc (w : World) (c c2 : Array Value) (t : TypeId) (fr : Nat × Nat) (k : Nat) (hk : k = w.heap.size) : (w.alloc (.cells c t fr)).setRow k c2 = w.alloc (.cells c2 t fr) := by
  subst hk
  have e : (w.heap.push (Obj.cells c t fr)).modify w.heap.size (fun | .cells _ elem f => .cells c2 elem f | o => o) = w.heap.push (Obj.cells c2 t fr) := by
    apply Array.ext
    · rw [Array.size_modify, Array.size_push, Array.size_push]
    · intro i h1 h2
      rw [Array.getElem_modify]
      by_cases e : w.heap.size = i
      · subst e; rw [if_pos rfl, Array.getElem_push_eq, Array.getElem_push_eq]
      · have h3 : i < w.heap.size := by rw [Array.size_push] at h2; omega
        rw [if_neg e, Array.getElem_push_lt h3, Array.getElem_push_lt h3]
  unfold World.setRow World.alloc
  exact congrArg (fun h : Array Obj => ({ w with heap := h } : World)) e

theorem splice_all (cur : Array Value) (cs : List Value) (h : cur.size = cs.length) : splice cur 0 cs = cs.toArray := by
  unfold splice
  simp [List.drop_eq_nil_of_le, h]

theorem AllReady.run {ops : Array Oper} {Q : Exit → Act → World → Prop} {md : Region.Mode} {fuel : Nat} {listed : Array Bool} {a : Act} {w w2 : World} {i : Nat} {o : Oper} {rs : List Nat} (ho : ops[i]? = some o) (hg : o.guard = none) (v : Value)
    (hrun : (execOp a.eval o).run P w = .ok (.value v) w2) (h : wpAny P md ops Q fuel (listed.setIfInBounds i true) (a.put o.dst v) w2)
    (hs : AllReady P md ops Q fuel listed a w rs) : AllReady P md ops Q fuel listed a w (i :: rs) :=
  AllReady.cons ho (fun K' hK => by rw [if_pos (by simp [Region.wanted, hg])]; unfold Oper.wp; rw [hrun]; exact hK _ _ h) hs

theorem AllReady.run0 {ops : Array Oper} {Q : Exit → Act → World → Prop} {md : Region.Mode} {fuel : Nat} {listed : Array Bool} {a : Act} {w w2 : World} {i : Nat} {o : Oper} {rs : List Nat} (ho : ops[i]? = some o) (hg : o.guard = none)
    (hrun : (execOp a.eval o).run P w = .ok .skip w2) (h : wpAny P md ops Q fuel (listed.setIfInBounds i true) (a.put o.dst undef) w2)
    (hs : AllReady P md ops Q fuel listed a w rs) : AllReady P md ops Q fuel listed a w (i :: rs) :=
  AllReady.cons ho (fun K' hK => by rw [if_pos (by simp [Region.wanted, hg])]; unfold Oper.wp; rw [hrun]; exact hK _ _ h) hs

theorem exec_append_own (w : World) (base : Nat) (t e : TypeId) (i : TypeInfo) (z : Value) (size bytes : Nat) (ht : P.underlying t = some (.slice e)) (hi : P.info? e = some i) (hz : i.zero = some z)
    (hsize : i.size = size) (hby : i.bytes = bytes) (hzs : z.cells.size = size) (hsz : 0 < size)
    (v : Value) (n : Nat) (xs : List Value) (hown : w.ownsRow base e size v n xs)
    (a : Addr) (m c : Nat) (news : List Value) (hl : news.length = m * size) (hnews : ∀ j u, news[j]? = some u → w.cell? (a.add j) = some u) (h1 : ∀ u ∈ news, u.oneCell' = true)
    (h63 : n + m ≤ maxLen) (hbytes : (n + m) * bytes ≤ 140737488355328) (hbase : base ≤ w.heap.size) :
    ∃ v' w', (∀ (ρ : Operand → Value) (o : Oper) (s x : Operand), o.op = Op.call { callee := Callee.builtin Builtin.append, args := #[s, x], argTypes := #[t, t] } → ρ s = v → ρ x = .slice (some a) m c → (execOp ρ o).run P w = .ok (.value v') w') ∧
      w'.ownsRow base e size v' (n + m) (xs ++ news) ∧ w.grownBy w' v.ownBlock ∧ (v'.ownBlock = v.ownBlock ∨ v'.ownBlock = some w.heap.size) := by
  obtain ⟨v', w', hrun, h2, h3, -, h4⟩ := run_append_own_at (P := P) w base t t e i z size bytes ht hi hz hsize hby hzs hsz v n xs hown a m c news hl hnews h1 h63 hbytes hbase
  refine ⟨v', w', ?_, h2, h3, h4⟩
  intro ρ o s x ho hs hx
  have hrun2 : (Builtin.append_ #[t, t] o.type #[v, .slice (some a) m c]).run P w = .ok v' w' := hrun
  unfold execOp
  simp [ho, resolve, invoke, builtin, hs, hx, hrun2]

section
variable {ops : Array Oper} {Q : Exit → Act → World → Prop} {md : Region.Mode} {fuel : Nat} {listed : Array Bool} {a : Act} {w w2 w3 : World} {i j : Nat} {rs : List Nat}
theorem AllReady.op (d : Option Tmp) (opr : Op) (ho : (ops[i]?).map (fun o => (o.dst, o.op, o.guard)) = some (d, opr, none)) (v : Value)
    (hrun : ∀ o : Oper, o.op = opr → (execOp a.eval o).run P w = .ok (.value v) w2) (h : wpAny P md ops Q fuel (listed.setIfInBounds i true) (a.put d v) w2)
    (hs : AllReady P md ops Q fuel listed a w rs) : AllReady P md ops Q fuel listed a w (i :: rs) := by
  cases hq : ops[i]? with
  | none => simp [hq] at ho
  | some o =>
    simp [hq] at ho
    obtain ⟨rfl, rfl, hg⟩ := ho
    exact AllReady.run hq hg v (hrun o rfl) h hs
theorem AllReady.op0 (opr : Op) (ho : (ops[i]?).map (fun o => (o.dst, o.op, o.guard)) = some (none, opr, none))
    (hrun : ∀ o : Oper, o.op = opr → (execOp a.eval o).run P w = .ok .skip w2) (h : wpAny P md ops Q fuel (listed.setIfInBounds i true) a w2)
    (hs : AllReady P md ops Q fuel listed a w rs) : AllReady P md ops Q fuel listed a w (i :: rs) := by
  cases hq : ops[i]? with
  | none => simp [hq] at ho
  | some o =>
    simp [hq] at ho
    obtain ⟨hd, rfl, hg⟩ := ho
    exact AllReady.run0 hq hg (hrun o rfl) (by rw [hd]; exact h) hs
end

theorem exec_load_one {ρ : Operand → Value} {o : Oper} (w : World) (ty : TypeId) (x : Operand) (ho : o.op = .load ty x) (ad : Addr) (hx : ρ x = .pointer (some ad)) (v : Value) (hc : w.cell? ad = some v)
    (d : TypeDesc) (hu : P.underlying ty = some d) (hd : (match d with | .struct _ | .array _ _ => true | _ => false) = false) : (execOp ρ o).run P w = .ok (.value v) w := by
  have hagg : (isAgg ty).run P w = .ok false w := by
    unfold isAgg
    rw [Sem.run_bind, run_underlying hu w]
    cases d <;> simp_all
  unfold execOp
  simp [ho, hx, Instr.loadAt, Instr.sureAddr, loadVar, hagg, hc]

theorem exec_store_one {ρ : Operand → Value} {o : Oper} (w : World) (ty : TypeId) (x y : Operand) (ho : o.op = .store ty x y) (ad : Addr) (hx : ρ x = .pointer (some ad)) (v : Value) (hy : ρ y = v)
    (h1 : v.oneCell' = true) (h2 : v.cells = #[v]) (u : Value) (hc : w.cell? ad = some u) (hf : w.frozen? ad = false) (hi : (P.info? ty).map (·.size) = some 1) : (execOp ρ o).run P w = .ok .skip (w.setCell ad v) := by
  cases hq : P.info? ty with
  | none => simp [hq] at hi
  | some i =>
    have hs : i.size = 1 := by simpa [hq] using hi
    have hst : (store ad v).run P w = .ok () (w.setCell ad v) := by rw [run_store P w ad v .plain h1]; simp [hc, hf]
    unfold execOp
    simp [ho, hx, hy, Instr.storeAt, Instr.sureAddr, storeVar, sizeOf, typeInfo, hq, hs, h2, storeCells]
    rw [Addr.add_zero', hst]; rfl

theorem exec_move {ρ : Operand → Value} {o : Oper} (x : Operand) (ho : o.op = .move x) (v : Value) (hx : ρ x = v) (w : World) : (execOp ρ o).run P w = .ok (.value v) w := by
  subst hx; unfold execOp; simp [ho]
end
theorem sT {α : Type} (l : List α) (i : Nat) (a : α) : l.toArray.setIfInBounds i a = (l.set i a).toArray := List.setIfInBounds_toArray ..
theorem sS {α : Type} (x : α) (l : List α) (n : Nat) (a : α) : (x :: l).set (n + 1) a = x :: l.set n a := rfl
theorem sZ {α : Type} (x : α) (l : List α) (a : α) : (x :: l).set 0 a = a :: l := rfl
end Go.Proofs.YtdajmekliodmcaaGreatDoor.P8
/- Rows of numbers in memory, and how they turn. No condition. -/
namespace Go.Proofs.YtdajmekliodmcaaGreatDoor.P8
set_option linter.unusedSimpArgs false
open Go.RowKit
set_option linter.unusedVariables false
theorem wrapM (n : Nat) : IntKind.u64.wrap (n : Int) = ((n % 18446744073709551616 : Nat) : Int) := by
  have h : IntKind.u64.wrap (n : Int) = (n : Int) % 18446744073709551616 := by simp [IntKind.wrap, IntKind.bits, IntKind.signed]
  rw [h]; omega
theorem wrap_id {n : Nat} (hn : n < 18446744073709551616) : IntKind.u64.wrap (n : Int) = (n : Int) := by
  rw [wrapM, Nat.mod_eq_of_lt hn]

/-- The cells of a row of n numbers of one kind. -/
def rowOf (kd : IntKind) (n : Nat) (f : Nat → Nat) : List Value := (List.range n).map fun j => Value.int kd (f j)
theorem rowOf_get (kd : IntKind) (n : Nat) (f : Nat → Nat) (j : Nat) (hj : j < n) : (rowOf kd n f)[j]? = some (.int kd (f j)) := by
  unfold rowOf
  rw [List.getElem?_map, List.getElem?_range hj]; rfl
theorem rowOf_length (kd : IntKind) (n : Nat) (f : Nat → Nat) : (rowOf kd n f).length = n := by simp [rowOf]
theorem rowOf_size (kd : IntKind) (n : Nat) (f : Nat → Nat) : (rowOf kd n f).toArray.size = n := by simp [rowOf]
theorem rowOf_one (kd : IntKind) (n : Nat) (f : Nat → Nat) : ∀ v ∈ rowOf kd n f, v.oneCell' = true := by
  intro v hv
  simp [rowOf] at hv
  obtain ⟨j, _, rfl⟩ := hv
  rfl
theorem rowOf_ext {kd : IntKind} {n : Nat} {f g : Nat → Nat} (h : ∀ j, j < n → f j = g j) : rowOf kd n f = rowOf kd n g := by
  unfold rowOf
  apply List.map_congr_left
  intro j hj
  rw [h j (List.mem_range.1 hj)]
def upd (f : Nat → Nat) (k v : Nat) : Nat → Nat := fun j => if j = k then v else f j
theorem rowOf_set (kd : IntKind) (n : Nat) (f : Nat → Nat) (k v : Nat) : (rowOf kd n f).toArray.setIfInBounds k (.int kd v) = (rowOf kd n (upd f k v)).toArray := by
  apply Array.ext'
  rw [Array.toList_setIfInBounds]
  apply List.ext_getElem?
  intro j
  show ((rowOf kd n f).set k _)[j]? = (rowOf kd n (upd f k v))[j]?
  rw [List.getElem?_set, rowOf_length]
  by_cases hj : j < n
  · rw [rowOf_get _ _ _ _ hj, rowOf_get _ _ _ _ hj]
    unfold upd
    by_cases e : k = j
    · subst e
      rw [if_pos rfl, if_pos hj, if_pos rfl]
    · rw [if_neg e, if_neg (fun h => e h.symm)]
  · rw [List.getElem?_eq_none (by rw [rowOf_length]; omega), List.getElem?_eq_none (by rw [rowOf_length]; omega)]
    by_cases e : k = j
    · rw [if_pos e, if_neg (by omega)]
    · rw [if_neg e]

/-- Block g is a row of n numbers. -/
def Row (w : World) (g : Nat) (t : TypeId) (kd : IntKind) (n : Nat) (f : Nat → Nat) : Prop := w.heap[g]? = some (.cells (rowOf kd n f).toArray t (0, 0))
theorem Row.cell {w : World} {g : Nat} {t : TypeId} {kd : IntKind} {n : Nat} {f : Nat → Nat} (h : Row w g t kd n f) (j : Nat) (hj : j < n) : w.cell? ⟨g, j, none⟩ = some (.int kd (f j)) := by
  rw [cell_of_row w g j _ t (0, 0) h, List.getElem?_toArray, rowOf_get _ _ _ _ hj]
theorem Row.free {w : World} {g : Nat} {t : TypeId} {kd : IntKind} {n : Nat} {f : Nat → Nat} (h : Row w g t kd n f) (j : Nat) : w.frozen? ⟨g, j, none⟩ = false := by
  have h' : w.heap[g]? = some (.cells (rowOf kd n f).toArray t (0, 0)) := h
  simp [World.frozen?, h']
theorem Row.lt {w : World} {g : Nat} {t : TypeId} {kd : IntKind} {n : Nat} {f : Nat → Nat} (h : Row w g t kd n f) : g < w.heap.size := lt_of_block h
theorem Row.set {w : World} {g : Nat} {t : TypeId} {kd : IntKind} {n : Nat} {f : Nat → Nat} (h : Row w g t kd n f) (k v : Nat) : Row (w.setCell ⟨g, k, none⟩ (.int kd v)) g t kd n (upd f k v) := by
  unfold Row
  rw [← rowOf_set]
  exact heap_setCell_same w g k _ t _ h
theorem Row.other {w : World} {g : Nat} {t : TypeId} {kd : IntKind} {n : Nat} {f : Nat → Nat} (h : Row w g t kd n f) (a : Addr) (v : Value) (ha : g ≠ a.block) : Row (w.setCell a v) g t kd n f := by
  unfold Row
  rw [heap_setCell_other _ _ _ _ ha]
  exact h
theorem Row.ext {w : World} {g : Nat} {t : TypeId} {kd : IntKind} {n : Nat} {f f' : Nat → Nat} (h : Row w g t kd n f) (he : ∀ j, j < n → f j = f' j) : Row w g t kd n f' := by
  unfold Row
  rw [← rowOf_ext he]; exact h
theorem Row.seg {w : World} {g : Nat} {t : TypeId} {kd : IntKind} {n : Nat} {f : Nat → Nat} (h : Row w g t kd n f) : ∀ j v, (rowOf kd n f)[j]? = some v → w.cell? ⟨g, 0 + j, none⟩ = some v := by
  intro j v hv
  rw [cell_of_row w g (0 + j) _ t (0, 0) h, Nat.zero_add, List.getElem?_toArray, hv]
theorem Row.new (w : World) (t : TypeId) (kd : IntKind) (n : Nat) (f : Nat → Nat) : Row (w.alloc (.cells (rowOf kd n f).toArray t)) w.heap.size t kd n f := heap_alloc_new w _
theorem Row.alloc {w : World} {g : Nat} {t : TypeId} {kd : IntKind} {n : Nat} {f : Nat → Nat} (h : Row w g t kd n f) (o : Obj) : Row (w.alloc o) g t kd n f := by
  unfold Row
  rw [Below.heap_alloc _ _ _ h.lt]; exact h
theorem Row.below {w w' : World} {g : Nat} {t : TypeId} {kd : IntKind} {n : Nat} {f : Nat → Nat} (h : Row w g t kd n f) (hb : Below w.heap.size w w') : Row w' g t kd n f := by
  unfold Row
  rw [hb.block g h.lt]; exact h
end Go.Proofs.YtdajmekliodmcaaGreatDoor.P8
/- Plain arithmetic: Fermat's little theorem, Pocklington's test, and that 2^255 less 19 is prime. No condition. -/
namespace Go.Proofs.YtdajmekliodmcaaGreatDoor.P8
set_option linter.unusedSimpArgs false
set_option linter.unusedVariables false

/-- A prime. -/
def Pr (n : Nat) : Prop := 2 ≤ n ∧ ∀ d, d ∣ n → d = 1 ∨ d = n

theorem Pr.pos {p : Nat} (h : Pr p) : 0 < p := by have := h.1; omega
theorem Pr.coprime {p a : Nat} (h : Pr p) (ha : ¬ p ∣ a) : Nat.Coprime p a := by
  rcases h.2 _ (Nat.gcd_dvd_left p a) with h1 | h1
  · exact h1
  · exact absurd (h1 ▸ Nat.gcd_dvd_right p a) ha
theorem Pr.dvd_mul {p a b : Nat} (h : Pr p) (hd : p ∣ a * b) : p ∣ a ∨ p ∣ b := by
  by_cases ha : p ∣ a
  · exact .inl ha
  · exact .inr ((h.coprime ha).dvd_of_dvd_mul_left hd)
theorem Pr.dvd_pow {p a n : Nat} (h : Pr p) (hd : p ∣ a ^ n) : p ∣ a := by
  induction n with
  | zero => have := Nat.dvd_one.1 (by simpa using hd); have := h.1; omega
  | succ n ih =>
    rw [Nat.pow_succ] at hd
    rcases h.dvd_mul hd with h1 | h1
    · exact ih h1
    · exact h1
theorem has_prime (n : Nat) (h : 2 ≤ n) : ∃ r, Pr r ∧ r ∣ n := by
  induction n using Nat.strongRecOn with
  | ind n ih =>
    by_cases hp : Pr n
    · exact ⟨n, hp, Nat.dvd_refl _⟩
    · have : ∃ d, d ∣ n ∧ ¬ (d = 1 ∨ d = n) := by
        apply Classical.byContradiction
        intro hc
        exact hp ⟨h, fun d hd => Classical.byContradiction fun hn => hc ⟨d, hd, hn⟩⟩
      obtain ⟨d, hd, hn⟩ := this
      have h0 : d ≠ 0 := by rintro rfl; have := Nat.eq_zero_of_zero_dvd hd; omega
      have hle := Nat.le_of_dvd (by omega) hd
      obtain ⟨r, hr, hrd⟩ := ih d (by omega) (by omega)
      exact ⟨r, hr, Nat.dvd_trans hrd hd⟩
/-- What is no prime has a prime divisor whose square is no greater. -/
theorem small_prime (n : Nat) (h : 2 ≤ n) (hp : ¬ Pr n) : ∃ r, Pr r ∧ r ∣ n ∧ r * r ≤ n := by
  have : ∃ d, d ∣ n ∧ ¬ (d = 1 ∨ d = n) := by
    apply Classical.byContradiction
    intro hc
    exact hp ⟨h, fun d hd => Classical.byContradiction fun hn => hc ⟨d, hd, hn⟩⟩
  obtain ⟨d, ⟨e, he⟩, hn⟩ := this
  have h0 : d ≠ 0 := by rintro rfl; simp at he; omega
  have h1 : e ≠ 0 := by rintro rfl; simp at he; omega
  have h2 : e ≠ 1 := by rintro rfl; simp at he; omega
  have key : ∀ x y : Nat, n = x * y → 2 ≤ x → x ≤ y → ∃ r, Pr r ∧ r ∣ n ∧ r * r ≤ n := by
    intro x y hxy hx hle
    obtain ⟨r, hr, hrd⟩ := has_prime x hx
    have hrx := Nat.le_of_dvd (by omega) hrd
    refine ⟨r, hr, hxy ▸ Nat.dvd_mul_right_of_dvd hrd y, ?_⟩
    rw [hxy]
    exact Nat.mul_le_mul hrx (Nat.le_trans hrx hle)
  rcases Nat.le_total d e with hl | hl
  · exact key d e he (by omega) hl
  · exact key e d (by rw [he, Nat.mul_comm]) (by omega) hl

/-- How many ways to take k of n. -/
def ch : Nat → Nat → Nat
  | _, 0 => 1
  | 0, _ + 1 => 0
  | n + 1, k + 1 => ch n k + ch n (k + 1)
theorem ch_zero (n : Nat) : ch n 0 = 1 := by cases n <;> rfl
theorem ch_succ (n k : Nat) : ch (n + 1) (k + 1) = ch n k + ch n (k + 1) := rfl
theorem ch_over (n : Nat) : ∀ k, n < k → ch n k = 0 := by
  induction n with
  | zero => intro k hk; cases k with
    | zero => omega
    | succ k => rfl
  | succ n ih => intro k hk; cases k with
    | zero => omega
    | succ k => rw [ch_succ, ih k (by omega), ih (k + 1) (by omega)]
theorem ch_self (n : Nat) : ch n n = 1 := by
  induction n with
  | zero => rfl
  | succ n ih => rw [ch_succ, ih, ch_over n (n + 1) (by omega)]
theorem ch_mul (n : Nat) : ∀ k, (k + 1) * ch (n + 1) (k + 1) = (n + 1) * ch n k := by
  induction n with
  | zero => intro k; cases k with
    | zero => rfl
    | succ k => simp [ch]
  | succ n ih => intro k; cases k with
    | zero => have := ih 0; rw [ch_zero] at this ⊢; rw [ch_succ, ch_zero]; omega
    | succ j =>
      have h1 := ih j
      have h2 := ih (j + 1)
      rw [ch_succ (n + 1) (j + 1), Nat.mul_add, h2]
      have h3 : (j + 1 + 1) * ch (n + 1) (j + 1) = (n + 1) * ch n j + ch (n + 1) (j + 1) := by rw [← h1, Nat.add_mul (j + 1) 1]; omega
      rw [h3, ch_succ n j]
      generalize ch n j = x
      generalize ch n (j + 1) = y
      rw [Nat.add_mul (n + 1) 1 (x + y), Nat.mul_add]
      omega
/-- The sum of the first m of a binomial. -/
def bin (n a : Nat) : Nat → Nat
  | 0 => 0
  | m + 1 => bin n a m + ch n m * a ^ m
theorem bin_succ (n a : Nat) : ∀ m, bin (n + 1) a (m + 1) = bin n a (m + 1) + a * bin n a m := by
  intro m
  induction m with
  | zero => simp [bin, ch_zero]
  | succ m ih =>
    rw [bin, ih, ch_succ, bin, bin]
    rw [bin, Nat.mul_add, Nat.pow_succ, Nat.add_mul]
    have e1 : a * (ch n m * a ^ m) = ch n m * (a ^ m * a) := by
      rw [Nat.mul_left_comm, Nat.mul_comm a]
    rw [e1]
    omega
theorem bin_all (n a : Nat) : bin n a (n + 1) = (a + 1) ^ n := by
  induction n with
  | zero => rfl
  | succ n ih =>
    have e : (a + 1) ^ (n + 1) = (a + 1) ^ n + a * (a + 1) ^ n := by rw [Nat.pow_succ, Nat.mul_add, Nat.mul_one, Nat.mul_comm a]; omega
    rw [bin_succ, bin, ch_over n (n + 1) (by omega), ih, e]
    omega
theorem Pr.ch_dvd {p : Nat} (h : Pr p) (k : Nat) (h0 : 0 < k) (hk : k < p) : p ∣ ch p k := by
  obtain ⟨j, rfl⟩ : ∃ j, k = j + 1 := ⟨k - 1, by omega⟩
  obtain ⟨q, rfl⟩ : ∃ q, p = q + 1 := ⟨p - 1, by omega⟩
  have h1 := ch_mul q j
  rcases h.dvd_mul (a := j + 1) (b := ch (q + 1) (j + 1)) ⟨ch q j, h1⟩ with h2 | h2
  · have := Nat.le_of_dvd (by omega) h2; omega
  · exact h2
theorem Pr.bin_one {p : Nat} (h : Pr p) (a : Nat) : ∀ m, 1 ≤ m → m ≤ p → bin p a m % p = 1 := by
  intro m h1 hm
  have hp := h.1
  induction m with
  | zero => omega
  | succ m ih =>
    cases m with
    | zero => rw [show bin p a (0 + 1) = 1 by simp [bin, ch_zero]]; exact Nat.mod_eq_of_lt hp
    | succ m =>
      obtain ⟨t, ht⟩ := h.ch_dvd (m + 1) (by omega) (by omega)
      rw [bin, ht, Nat.mul_assoc, Nat.add_mul_mod_self_left]
      exact ih (by omega) (by omega)
theorem Pr.succ_pow {p : Nat} (h : Pr p) (a : Nat) : (a + 1) ^ p % p = (a ^ p + 1) % p := by
  have h1 := bin_all p a
  rw [bin, ch_self, Nat.one_mul] at h1
  rw [← h1, Nat.add_mod, h.bin_one a p (by have := h.1; omega) (Nat.le_refl _), Nat.add_mod (a ^ p) 1, Nat.add_comm]
  have h2 : 1 % p = 1 := Nat.mod_eq_of_lt h.1
  rw [h2]
/-- Fermat's little theorem. -/
theorem Pr.fermat {p : Nat} (h : Pr p) (a : Nat) : a ^ p % p = a % p := by
  induction a with
  | zero => rw [Nat.zero_pow h.pos]
  | succ a ih => rw [h.succ_pow, Nat.add_mod, ih, ← Nat.add_mod]
theorem dvd_of_mod_eq {m a b : Nat} (h : a % m = b % m) (hle : b ≤ a) : m ∣ a - b := Nat.dvd_of_mod_eq_zero (Nat.sub_mod_eq_zero_of_mod_eq h)
theorem Pr.fermat_one {p : Nat} (h : Pr p) (a : Nat) (ha : ¬ p ∣ a) : a ^ (p - 1) % p = 1 := by
  have hp := h.1
  have h1 := h.fermat a
  have h0 : 0 < a := by rcases Nat.eq_zero_or_pos a with rfl | h; exact absurd (Nat.dvd_zero p) ha; exact h
  have hpow : 0 < a ^ (p - 1) := Nat.pow_pos h0
  have h2 : a ^ p = a * a ^ (p - 1) := by rw [Nat.mul_comm, ← Nat.pow_succ]; congr 1; omega
  have h3 : p ∣ a * (a ^ (p - 1) - 1) := by
    have h4 : a ≤ a ^ p := by rw [h2]; exact Nat.le_mul_of_pos_right a hpow
    have h5 := dvd_of_mod_eq h1 h4
    rw [h2] at h5
    rwa [Nat.mul_sub, Nat.mul_one]
  rcases h.dvd_mul h3 with h4 | h4
  · exact absurd h4 ha
  · obtain ⟨t, ht⟩ := h4
    rw [show a ^ (p - 1) = 1 + p * t by omega, Nat.add_mul_mod_self_left, Nat.mod_eq_of_lt hp]

/-- A power modulo m: of what b is, n rounds at the most. -/
def pwm (m : Nat) : Nat → Nat → Nat → Nat
  | 0, _, _ => 1 % m
  | f + 1, a, n => if n = 0 then 1 % m else if n % 2 = 1 then a * pwm m f (a * a % m) (n / 2) % m else pwm m f (a * a % m) (n / 2)
theorem pwm_ok (m : Nat) : ∀ f a n, n < 2 ^ f → pwm m f a n = a ^ n % m := by
  intro f
  induction f with
  | zero => intro a n h; have : n = 0 := by simpa using h
            rw [this]; rfl
  | succ f ih =>
    intro a n h
    unfold pwm
    by_cases h0 : n = 0
    · rw [if_pos h0, h0]; rfl
    · rw [if_neg h0]
      have hh : n / 2 < 2 ^ f := by rw [Nat.pow_succ] at h; omega
      rw [ih _ _ hh, ← Nat.pow_mod, ← Nat.pow_two, ← Nat.pow_mul]
      by_cases h1 : n % 2 = 1
      · rw [if_pos h1, Nat.mul_mod, Nat.mod_mod, ← Nat.mul_mod, Nat.mul_comm, ← Nat.pow_succ]
        congr 2; omega
      · rw [if_neg h1]
        congr 2; omega

theorem pow_mod_one {m a n k : Nat} (h : a ^ n % m = 1 % m) : a ^ (n * k) % m = 1 % m := by
  rw [Nat.pow_mul, Nat.pow_mod, h, ← Nat.pow_mod, Nat.one_pow]
/-- Two powers of one exponent that are one, modulo a prime, give one at their greatest common divisor. -/
theorem pow_gcd {m a : Nat} (hm : 2 ≤ m) (hc : Nat.Coprime m a) : ∀ x y, a ^ x % m = 1 → a ^ y % m = 1 → a ^ (Nat.gcd x y) % m = 1 := by
  intro x
  induction x using Nat.strongRecOn with
  | ind x ih =>
    intro y hx hy
    by_cases h0 : x = 0
    · subst h0; rwa [Nat.gcd_zero_left]
    · rw [Nat.gcd_rec]
      refine ih (y % x) (Nat.mod_lt _ (by omega)) x ?_ hx
      have h1 : 1 % m = 1 := Nat.mod_eq_of_lt hm
      have e : a ^ y = a ^ (x * (y / x)) * a ^ (y % x) := by rw [← Nat.pow_add, Nat.div_add_mod]
      rw [e, Nat.mul_mod, pow_mod_one (k := y / x) (by rw [hx, h1]), h1, Nat.one_mul, Nat.mod_mod] at hy
      exact hy
/-- One step of Pocklington's test: a prime q in what is below p, at a base a. -/
theorem pock_dvd {p q m a r : Nat} (hp0 : 2 ≤ p) (hq : Pr q) (hm : p - 1 = q * m) (hr : Pr r) (hrp : r ∣ p) (h1 : a ^ (p - 1) % p = 1) (t : Nat) (ht : t * (a ^ m % p + (p - 1)) % p = 1) : q ∣ r - 1 := by
  have hr2 := hr.1
  have hle := Nat.le_of_dvd (by omega) hrp
  have hmod : ∀ x, x % p % r = x % r := fun x => Nat.mod_mod_of_dvd x hrp
  have hb1 : a ^ (p - 1) % r = 1 := by rw [← hmod, h1, Nat.mod_eq_of_lt hr2]
  have hra : ¬ r ∣ a := by
    intro h
    have h2 : p - 1 ≠ 0 := by omega
    have := Nat.dvd_trans h (show a ∣ a ^ (p - 1) from by rw [show p - 1 = (p - 2) + 1 by omega, Nat.pow_succ]; exact Nat.dvd_mul_left _ _)
    rw [Nat.mod_eq_zero_of_dvd this] at hb1; omega
  have hc := hr.coprime hra
  have hrb : ¬ r ∣ a ^ m := fun h => hra (hr.dvd_pow h)
  have hx : (a ^ m) ^ q % r = 1 := by rw [← Nat.pow_mul, Nat.mul_comm, ← hm]; exact hb1
  have hy : (a ^ m) ^ (r - 1) % r = 1 := hr.fermat_one _ hrb
  rcases hq.2 _ (Nat.gcd_dvd_left q (r - 1)) with h | h
  · exfalso
    have h2 := pow_gcd hr2 (hr.coprime hrb) q (r - 1) hx hy
    rw [h, Nat.pow_one] at h2
    -- a ^ m is one modulo r: then what is multiplied is nought modulo r
    have h3 : (a ^ m % p + (p - 1)) % r = 0 := by
      obtain ⟨s, hs⟩ := hrp
      have e1 : a ^ m % p % r = 1 := by rw [hmod, h2]
      have : (a ^ m % p + (p - 1)) = (a ^ m % p - 1) + p := by
        have : 0 < a ^ m % p := by rcases Nat.eq_zero_or_pos (a ^ m % p) with h | h; rw [h] at e1; simp at e1; exact h
        omega
      rw [this, hs, Nat.add_mul_mod_self_left]
      rw [hs] at e1
      rw [hs] at hle
      exact Nat.sub_mod_eq_zero_of_mod_eq (by rw [e1, Nat.mod_eq_of_lt hr2])
    have h4 : t * (a ^ m % p + (p - 1)) % p % r = 1 := by rw [ht, Nat.mod_eq_of_lt hr2]
    rw [hmod, Nat.mul_mod, h3, Nat.mul_zero, Nat.zero_mod] at h4
    omega
  · exact h ▸ Nat.gcd_dvd_right q (r - 1)
/-- Pocklington's test with one prime. -/
theorem pock1 (p q m a t : Nat) (hp : 2 ≤ p) (hq : Pr q) (hm : p - 1 = q * m) (hb : p ≤ q * q) (h1 : a ^ (p - 1) % p = 1) (ht : t * (a ^ m % p + (p - 1)) % p = 1) : Pr p := by
  apply Classical.byContradiction
  intro hn
  obtain ⟨r, hr, hrp, hrr⟩ := small_prime p hp hn
  have h := Nat.le_of_dvd (by have := hr.1; omega) (pock_dvd hp hq hm hr hrp h1 t ht)
  have : r * r ≤ q * q := by omega
  have h2 : q + 1 ≤ r := by have := hr.1; omega
  have := Nat.mul_le_mul h2 h2
  rw [Nat.add_mul, Nat.mul_add] at this
  omega
/-- Pocklington's test with two primes. -/
theorem pock2 (p q q2 m m2 a a2 t t2 : Nat) (hp : 2 ≤ p) (hq : Pr q) (hq2 : Pr q2) (hne : q ≠ q2) (hm : p - 1 = q * m) (hm2 : p - 1 = q2 * m2) (hb : p ≤ (q * q2) * (q * q2))
    (h1 : a ^ (p - 1) % p = 1) (ht : t * (a ^ m % p + (p - 1)) % p = 1) (h2 : a2 ^ (p - 1) % p = 1) (ht2 : t2 * (a2 ^ m2 % p + (p - 1)) % p = 1) : Pr p := by
  apply Classical.byContradiction
  intro hn
  obtain ⟨r, hr, hrp, hrr⟩ := small_prime p hp hn
  have hr2 := hr.1
  have d1 := pock_dvd hp hq hm hr hrp h1 t ht
  have d2 := pock_dvd hp hq2 hm2 hr hrp h2 t2 ht2
  have hco : Nat.Coprime q q2 := hq.coprime (fun h => by
    rcases hq2.2 _ h with e | e
    · have := hq.1; omega
    · exact hne e)
  have d3 : q * q2 ∣ r - 1 := hco.mul_dvd_of_dvd_of_dvd d1 d2
  have h := Nat.le_of_dvd (by omega) d3
  generalize q * q2 = z at *
  have h3 : z + 1 ≤ r := by omega
  have := Nat.mul_le_mul h3 h3
  rw [Nat.add_mul, Nat.mul_add] at this
  omega
theorem pock1w (p q m a t : Nat) (hp : 2 ≤ p) (hp2 : p < 2 ^ 256) (hq : Pr q) (hm : p - 1 = q * m) (hb : p ≤ q * q) (h1 : pwm p 256 a (p - 1) = 1) (ht : t * (pwm p 256 a m + (p - 1)) % p = 1) : Pr p := by
  have hmm : m ≤ p - 1 := by rw [hm]; exact Nat.le_mul_of_pos_left m hq.pos
  rw [pwm_ok p 256 a _ (by omega)] at h1 ht
  exact pock1 p q m a t hp hq hm hb h1 ht
theorem pock2w (p q q2 m m2 a a2 t t2 : Nat) (hp : 2 ≤ p) (hp2 : p < 2 ^ 256) (hq : Pr q) (hq2 : Pr q2) (hne : q ≠ q2) (hm : p - 1 = q * m) (hm2 : p - 1 = q2 * m2) (hb : p ≤ (q * q2) * (q * q2))
    (h1 : pwm p 256 a (p - 1) = 1) (ht : t * (pwm p 256 a m + (p - 1)) % p = 1) (h2 : pwm p 256 a2 (p - 1) = 1) (ht2 : t2 * (pwm p 256 a2 m2 + (p - 1)) % p = 1) : Pr p := by
  have hmm : m ≤ p - 1 := by rw [hm]; exact Nat.le_mul_of_pos_left m hq.pos
  have hmm2 : m2 ≤ p - 1 := by rw [hm2]; exact Nat.le_mul_of_pos_left m2 hq2.pos
  rw [pwm_ok p 256 a _ (by omega)] at h1 ht
  rw [pwm_ok p 256 a2 _ (by omega)] at h2 ht2
  exact pock2 p q q2 m m2 a a2 t t2 hp hq hq2 hne hm hm2 hb h1 ht h2 ht2
/-- Trial division, from d on, n rounds. -/
def noDiv (n : Nat) : Nat → Nat → Bool
  | 0, _ => true
  | f + 1, d => n % d != 0 && noDiv n f (d + 1)
theorem noDiv_ok (n : Nat) : ∀ f d, noDiv n f d = true → ∀ e, d ≤ e → e < d + f → ¬ e ∣ n := by
  intro f
  induction f with
  | zero => intro d h e h1 h2; omega
  | succ f ih =>
    intro d h e h1 h2 hd
    unfold noDiv at h
    rw [Bool.and_eq_true] at h
    by_cases he : e = d
    · subst he
      have h3 := h.1
      rw [Nat.mod_eq_zero_of_dvd hd] at h3
      simp at h3
    · exact ih (d + 1) h.2 e (by omega) (by omega) hd
theorem trial (n f : Nat) (h : 2 ≤ n) (hf : n < (f + 2) * (f + 2)) (hd : noDiv n f 2 = true) : Pr n := by
  apply Classical.byContradiction
  intro hn
  obtain ⟨r, hr, hrp, hrr⟩ := small_prime n h hn
  refine noDiv_ok n f 2 hd r hr.1 ?_ hrp
  rcases Nat.lt_or_ge r (2 + f) with h | h
  · exact h
  · have := Nat.mul_le_mul h h
    rw [Nat.add_comm 2 f] at this
    omega

end Go.Proofs.YtdajmekliodmcaaGreatDoor.P8
/- 2^255 less 19 is prime: by Pocklington's test, prime by prime. No condition. -/
namespace Go.Proofs.YtdajmekliodmcaaGreatDoor.P8
set_option linter.unusedSimpArgs false
set_option linter.unusedVariables false
theorem pr_1923133 : Pr 1923133 := trial 1923133 1386 (by decide) (by decide) (by decide +kernel)
theorem pr_75707 : Pr 75707 := trial 75707 275 (by decide) (by decide) (by decide +kernel)
theorem pr_8574133 : Pr 8574133 := trial 8574133 2928 (by decide) (by decide) (by decide +kernel)
theorem pr_127 : Pr 127 := trial 127 11 (by decide) (by decide) (by decide +kernel)
theorem pr_1919519569386763 : Pr 1919519569386763 :=
  pock2w 1919519569386763 8574133 127 223873314 15114327318006 2 2 1290547218147893 1870148777187772 (by decide +kernel) (by decide +kernel) pr_8574133 pr_127 (by decide +kernel) (by decide +kernel) (by decide +kernel) (by decide +kernel) (by decide +kernel) (by decide +kernel) (by decide +kernel) (by decide +kernel)
theorem pr_75445702479781427272750846543864801 : Pr 75445702479781427272750846543864801 :=
  pock2w 75445702479781427272750846543864801 1919519569386763 75707 39304471641247389600 996548568557483816196003626400 2 2 74602835786463724888147869570305675 8986369574106813140303762220009459 (by decide +kernel) (by decide +kernel) pr_1919519569386763 pr_75707 (by decide +kernel) (by decide +kernel) (by decide +kernel) (by decide +kernel) (by decide +kernel) (by decide +kernel) (by decide +kernel) (by decide +kernel)
theorem pr_74058212732561358302231226437062788676166966415465897661863160754340907 : Pr 74058212732561358302231226437062788676166966415465897661863160754340907 :=
  pock2w 74058212732561358302231226437062788676166966415465897661863160754340907 75445702479781427272750846543864801 1923133 981609426360740691344999861639072106 38509147694185143878364744631319200843710219946028640589009268082 2 2 70463328703800545008217672123162676565183935400628861884889913886334520 42667922733402173883383430511031973246347600196095044695562289082088131 (by decide +kernel) (by decide +kernel) pr_75445702479781427272750846543864801 pr_1923133 (by decide +kernel) (by decide +kernel) (by decide +kernel) (by decide +kernel) (by decide +kernel) (by decide +kernel) (by decide +kernel) (by decide +kernel)
theorem pr_57896044618658097711785492504343953926634992332820282019728792003956564819949 : Pr 57896044618658097711785492504343953926634992332820282019728792003956564819949 :=
  pock1w 57896044618658097711785492504343953926634992332820282019728792003956564819949 74058212732561358302231226437062788676166966415465897661863160754340907 781764 2 55540832096118778044507775605005710249233119951144946814680141076505643269084 (by decide +kernel) (by decide +kernel) pr_74058212732561358302231226437062788676166966415465897661863160754340907 (by decide +kernel) (by decide +kernel) (by decide +kernel) (by decide +kernel)
/-- The prime. -/
def pp : Nat := 57896044618658097711785492504343953926634992332820282019728792003956564819949
theorem pp_prime : Pr pp := pr_57896044618658097711785492504343953926634992332820282019728792003956564819949
end Go.Proofs.YtdajmekliodmcaaGreatDoor.P8
