/- Laws on operations over rows of cells, as the later texts use them: a whole aggregate read out of a row, stored into it, an append of one element, one step of a region that draws its order. No condition but what each law names. -/
import Derived.Test.YtfcnfcolhahghaaDoorRows
import Derived.WalkKit
import Derived.WalkSpells
import Derived.WalkLawsBesides
import Derived.Handy
import Derived.Lib.Hide
import Derived.RegionTactic
import Derived.Maps.AppendAt
namespace Go.Proofs.YtfcnfcolhahghaaDoor
open Go.RowKit
set_option linter.unusedVariables false
set_option linter.unusedSimpArgs false

section
variable {P : Program}

theorem addr_add (g o j : Nat) : (⟨g, o, none⟩ : Addr).add j = ⟨g, o + j, none⟩ := by unfold Addr.add; split <;> simp_all

/-- A whole aggregate read out of the middle of a block. -/
theorem run_loadVar_seg (w : World) (ty : TypeId) (g off : Nat) (cs : List Value) (d : TypeDesc) (hc : ∀ j v, cs[j]? = some v → w.cell? ⟨g, off + j, none⟩ = some v)
    (hu : P.underlying ty = some d) (hd : (match d with | .struct _ | .array _ _ => true | _ => false) = true) (hi : (P.info? ty).map (·.size) = some cs.length) :
    (loadVar ty ⟨g, off, none⟩).run P w = .ok (.agg cs.toArray) w := by
  have hl : (loadCells ⟨g, off, none⟩ cs.length).run P w = .ok cs.toArray w :=
    run_loadCells_list (P := P) w ⟨g, off, none⟩ cs (fun j v hv => by rw [addr_add]; exact hc j v hv)
  cases hq : P.info? ty with
  | none => simp [hq] at hi
  | some i =>
    have hs : i.size = cs.length := by simpa [hq] using hi
    have hagg : (isAgg ty).run P w = .ok true w := by
      unfold isAgg
      rw [Sem.run_bind, run_underlying hu w]
      cases d <;> simp_all
    simp [loadVar, Sem.run_bind, hagg, sizeOf, typeInfo, hq, hs, hl]

theorem wp_load_seg {o : Oper} {a : Act} {w : World} {K : Act → World → Prop} {Q : Exit → Act → World → Prop} (ty : TypeId) (x : Operand) (ho : o.op = .load ty x)
    (g off : Nat) (hx : a.eval x = .pointer (some ⟨g, off, none⟩)) (cs : List Value) (d : TypeDesc) (hc : ∀ j v, cs[j]? = some v → w.cell? ⟨g, off + j, none⟩ = some v)
    (hu : P.underlying ty = some d) (hd : (match d with | .struct _ | .array _ _ => true | _ => false) = true) (hi : (P.info? ty).map (·.size) = some cs.length)
    (h : K (a.put o.dst (.agg cs.toArray)) w) : o.wp P a w K Q := by
  unfold Oper.wp execOp
  simp only [ho, hx, Instr.loadAt, Instr.sureAddr, Sem.run_bind, Sem.run_pure, Result.andThen_ok, run_loadVar_seg w ty g off cs d hc hu hd hi]
  exact h

theorem wpList_load_seg {ops : Array Oper} {rest : List Oper} {o : Oper} {a : Act} {w : World} {Q : Exit → Act → World → Prop} (hgd : o.guard = none) (ty : TypeId) (x : Operand) (ho : o.op = .load ty x)
    (g off : Nat) (hx : a.eval x = .pointer (some ⟨g, off, none⟩)) (cs : List Value) (d : TypeDesc) (hc : ∀ j v, cs[j]? = some v → w.cell? ⟨g, off + j, none⟩ = some v)
    (hu : P.underlying ty = some d) (hd : (match d with | .struct _ | .array _ _ => true | _ => false) = true) (hi : (P.info? ty).map (·.size) = some cs.length)
    (h : wpList P ops Q rest (a.put o.dst (.agg cs.toArray)) w) : wpList P ops Q (o :: rest) a w :=
  wpList_plain hgd fun _ hK => wp_load_seg ty x ho g off hx cs d hc hu hd hi (hK _ _ h)

/-- What a row's cells are behind a store of cs at off. -/
def splice (cur : Array Value) (off : Nat) (cs : List Value) : Array Value := (cur.toList.take off ++ cs ++ cur.toList.drop (off + cs.length)).toArray

theorem splice_get (cur : Array Value) (off : Nat) (cs : List Value) (hfit : off + cs.length ≤ cur.size) (k : Nat) :
    (splice cur off cs)[k]? = if off ≤ k ∧ k < off + cs.length then cs[k - off]? else cur[k]? := by
  have h1 : min off cur.size = off := by omega
  unfold splice
  simp only [List.getElem?_toArray, List.getElem?_append, List.length_append, List.length_take, Array.length_toList, h1, List.getElem?_take, List.getElem?_drop]
  split
  · rename_i h
    split
    · rename_i h2
      rw [if_neg (by omega)]
      simp
    · rename_i h2
      rw [if_pos (by omega)]
  · rename_i h
    rw [if_neg (by omega)]
    simp
    congr 1
    omega

theorem splice_size (cur : Array Value) (off : Nat) (cs : List Value) (hfit : off + cs.length ≤ cur.size) : (splice cur off cs).size = cur.size := by
  unfold splice
  simp
  omega

theorem run_storeVar_seg (w : World) (ty : TypeId) (g off : Nat) (cur : Array Value) (t : TypeId) (cs : List Value) (hg : w.heap[g]? = some (.cells cur t (0, 0))) (hfit : off + cs.length ≤ cur.size)
    (h1 : ∀ v ∈ cs, v.oneCell' = true) (hi : (P.info? ty).map (·.size) = some cs.length) :
    (storeVar ty ⟨g, off, none⟩ (.agg cs.toArray)).run P w = .ok () (w.setRow g (splice cur off cs)) := by
  have hst := run_storeCells_at P g off t cs 0 cur w hg (by simpa using hfit) h1
  cases hq : P.info? ty with
  | none => simp [hq] at hi
  | some i =>
    have hs : i.size = cs.length := by simpa [hq] using hi
    simp only [Nat.add_zero] at hst
    simp [storeVar, sizeOf, typeInfo, hq, hs, Value.cells, hst, splice]

theorem wp_store_seg {o : Oper} {a : Act} {w : World} {K : Act → World → Prop} {Q : Exit → Act → World → Prop} (ty : TypeId) (x y : Operand) (ho : o.op = .store ty x y)
    (g off : Nat) (hx : a.eval x = .pointer (some ⟨g, off, none⟩)) (cs : List Value) (hy : a.eval y = .agg cs.toArray) (cur : Array Value) (t : TypeId) (hg : w.heap[g]? = some (.cells cur t (0, 0))) (hfit : off + cs.length ≤ cur.size)
    (h1 : ∀ v ∈ cs, v.oneCell' = true) (hi : (P.info? ty).map (·.size) = some cs.length)
    (h : K (a.put o.dst undef) (w.setRow g (splice cur off cs))) : o.wp P a w K Q := by
  unfold Oper.wp execOp
  simp only [ho, hx, hy, Instr.storeAt, Instr.sureAddr, Sem.run_bind, Sem.run_pure, Result.andThen_ok, run_storeVar_seg w ty g off cur t cs hg hfit h1 hi]
  exact h

theorem wpList_store_seg {ops : Array Oper} {rest : List Oper} {o : Oper} {a : Act} {w : World} {Q : Exit → Act → World → Prop} (hgd : o.guard = none) (ty : TypeId) (x y : Operand) (ho : o.op = .store ty x y)
    (g off : Nat) (hx : a.eval x = .pointer (some ⟨g, off, none⟩)) (cs : List Value) (hy : a.eval y = .agg cs.toArray) (cur : Array Value) (t : TypeId) (hg : w.heap[g]? = some (.cells cur t (0, 0))) (hfit : off + cs.length ≤ cur.size)
    (h1 : ∀ v ∈ cs, v.oneCell' = true) (hi : (P.info? ty).map (·.size) = some cs.length)
    (h : wpList P ops Q rest (a.put o.dst undef) (w.setRow g (splice cur off cs))) : wpList P ops Q (o :: rest) a w :=
  wpList_plain hgd fun _ hK => wp_store_seg ty x y ho g off hx cs hy cur t hg hfit h1 hi (hK _ _ h)

theorem wpList_convert_bytes {ops : Array Oper} {rest : List Oper} {o : Oper} {a : Act} {w : World} {Q : Exit → Act → World → Prop} (hgd : o.guard = none) (src dst e : TypeId) (x : Operand) (ho : o.op = .convert src dst x)
    (ad : Addr) (len cap : Nat) (hx : a.eval x = .slice (some ad) len cap) (l : List UInt8) (hl : l.length = len) (hs : P.underlying src = some (.slice e)) (he : P.underlying e = some (.int .u8)) (hd : P.underlying dst = some .string)
    (hc : ∀ j (hj : j < l.length), w.cell? (ad.add j) = some (.int .u8 (l[j].toNat : Int)))
    (h : wpList P ops Q rest (a.put o.dst (.string ⟨l.toArray⟩)) w) : wpList P ops Q (o :: rest) a w := by
  subst hl
  refine wpList_plain hgd fun K hK => ?_
  unfold Oper.wp execOp
  simp only [ho, hx, Sem.run_bind, run_convert_bytes_back w src dst e ad cap l hs he hd hc, Result.andThen_ok]
  exact hK _ _ h


/-- Whatever one operation comes to, told beforehand. -/
theorem wpList_run {ops : Array Oper} {rest : List Oper} {o : Oper} {a : Act} {w w2 : World} {Q : Exit → Act → World → Prop} (hgd : o.guard = none) (v : Value)
    (hrun : (execOp a.eval o).run P w = .ok (.value v) w2) (h : wpList P ops Q rest (a.put o.dst v) w2) : wpList P ops Q (o :: rest) a w :=
  wpList_plain hgd fun K hK => by unfold Oper.wp; rw [hrun]; exact hK _ _ h

theorem wpList_run0 {ops : Array Oper} {rest : List Oper} {o : Oper} {a : Act} {w w2 : World} {Q : Exit → Act → World → Prop} (hgd : o.guard = none)
    (hrun : (execOp a.eval o).run P w = .ok .skip w2) (h : wpList P ops Q rest (a.put o.dst undef) w2) : wpList P ops Q (o :: rest) a w :=
  wpList_plain hgd fun K hK => by unfold Oper.wp; rw [hrun]; exact hK _ _ h

theorem exec_build1 {ρ : Operand → Value} {o : Oper} (w : World) (t : TypeId) (k : Nat) (x : Operand) (ho : o.op = .build t #[(k, x)]) (u : Value) (hx : ρ x = u) (v : Value)
    (hrun : (Instr.build t #[(k, u)]).run P w = .ok v w) : (execOp ρ o).run P w = .ok (.value v) w := by
  subst hx
  unfold execOp
  simp [ho, hrun]

theorem exec_load_seg {ρ : Operand → Value} {o : Oper} (w : World) (ty : TypeId) (x : Operand) (ho : o.op = .load ty x)
    (g off : Nat) (hx : ρ x = .pointer (some ⟨g, off, none⟩)) (cs : List Value) (d : TypeDesc) (hc : ∀ j v, cs[j]? = some v → w.cell? ⟨g, off + j, none⟩ = some v)
    (hu : P.underlying ty = some d) (hd : (match d with | .struct _ | .array _ _ => true | _ => false) = true) (hi : (P.info? ty).map (·.size) = some cs.length) :
    (execOp ρ o).run P w = .ok (.value (.agg cs.toArray)) w := by
  unfold execOp
  simp only [ho, hx, Instr.loadAt, Instr.sureAddr, Sem.run_bind, Sem.run_pure, Result.andThen_ok, run_loadVar_seg w ty g off cs d hc hu hd hi]

theorem exec_store_seg {ρ : Operand → Value} {o : Oper} (w : World) (ty : TypeId) (x y : Operand) (ho : o.op = .store ty x y)
    (g off : Nat) (hx : ρ x = .pointer (some ⟨g, off, none⟩)) (cs : List Value) (hy : ρ y = .agg cs.toArray) (cur : Array Value) (t : TypeId) (hg : w.heap[g]? = some (.cells cur t (0, 0))) (hfit : off + cs.length ≤ cur.size)
    (h1 : ∀ v ∈ cs, v.oneCell' = true) (hi : (P.info? ty).map (·.size) = some cs.length) :
    (execOp ρ o).run P w = .ok .skip (w.setRow g (splice cur off cs)) := by
  unfold execOp
  simp only [ho, hx, hy, Instr.storeAt, Instr.sureAddr, Sem.run_bind, Sem.run_pure, Result.andThen_ok, run_storeVar_seg w ty g off cur t cs hg hfit h1 hi]

/-- A new variable of an aggregate's type. -/
theorem exec_alloc_agg {ρ : Operand → Value} {o : Oper} (w : World) (ty : TypeId) (ho : o.op = .alloc ty) (cs : Array Value) (hz : (zeroValue ty).run P w = .ok (.agg cs) w) :
    (execOp ρ o).run P w = .ok (.value (.pointer (some ⟨w.heap.size, 0, none⟩))) (w.alloc (.cells cs ty)) := by
  unfold execOp
  simp only [ho, Instr.alloc, Sem.run_bind, hz, Result.andThen_ok, newVar, newRow, Value.cells, run_newObj_alloc, Sem.run_pure]

theorem setRow_alloc (w : World) (c c2 : Array Value) (t : TypeId) (fr : Nat × Nat) (k : Nat) (hk : k = w.heap.size) : (w.alloc (.cells c t fr)).setRow k c2 = w.alloc (.cells c2 t fr) := by
  subst hk
  have e : (w.heap.push (Obj.cells c t fr)).modify w.heap.size (fun | .cells _ elem f => .cells c2 elem f | o => o) = w.heap.push (Obj.cells c2 t fr) := by
    apply Array.ext
    · rw [Array.size_modify, Array.size_push, Array.size_push]
    · intro i h1 h2
      rw [Array.getElem_modify]
      by_cases e : w.heap.size = i
      · subst e; rw [if_pos rfl, Array.getElem_push_eq, Array.getElem_push_eq]
      · have h3 : i < w.heap.size := by rw [Array.size_push] at h2; omega
        rw [if_neg e, Array.getElem_push_lt h3, Array.getElem_push_lt h3]
  unfold World.setRow World.alloc
  exact congrArg (fun h : Array Obj => ({ w with heap := h } : World)) e

/-- 'copy(dst, s)', s a string that fits. -/
theorem run_copy_str (w : World) (dT sT ty elem : TypeId) (g o dLen dCap : Nat) (s : ByteArray) (cur : Array Value) (t : TypeId)
    (hu : P.underlying dT = some (.slice elem)) (hs : (P.info? elem).map (·.size) = some 1) (hg : w.heap[g]? = some (.cells cur t (0, 0))) (hle : s.size ≤ dLen) (hfit : o + s.size ≤ cur.size) :
    (Builtin.copy_ #[dT, sT] ty #[.slice (some ⟨g, o, none⟩) dLen dCap, .string s]).run P w = .ok (goInt s.size) (w.setRow g (splice cur o (s.data.toList.map fun b => .int .u8 (b.toNat : Int)))) := by
  have hsz : (s.data.toList.map fun b => Value.int .u8 (b.toNat : Int)).length = s.size := by rw [List.length_map]; rfl
  have hst := run_storeCells_at P g o t (s.data.toList.map fun b => Value.int .u8 (b.toNat : Int)) 0 cur w hg (by rw [hsz]; simpa using hfit) (by intro v hv; simp at hv; obtain ⟨b, _, rfl⟩ := hv; rfl)
  have hmin : Nat.min s.size dLen = s.size := Nat.min_eq_left hle
  cases hq : P.info? elem with
  | none => simp [hq] at hs
  | some i =>
    have htk : List.take s.size (List.map (fun b => Value.int .u8 (b.toNat : Int)) s.data.toList) = List.map (fun b => Value.int .u8 (b.toNat : Int)) s.data.toList := List.take_of_length_le (by rw [hsz]; exact Nat.le_refl _)
    simp only [Nat.add_zero] at hst
    simp [Builtin.copy_, run_underlying hu, Builtin.lenOf, Builtin.firstCells, sizeOf, typeInfo, hq, hmin, htk, hst, splice]

theorem splice_all (cur : Array Value) (cs : List Value) (h : cur.size = cs.length) : splice cur 0 cs = cs.toArray := by
  unfold splice
  simp [List.drop_eq_nil_of_le, h]

/-- A store of a whole aggregate into the variable that was just made. -/
theorem exec_store_new {ρ : Operand → Value} {o : Oper} (w : World) (ty : TypeId) (x y : Operand) (ho : o.op = .store ty x y) (c : Array Value) (t : TypeId)
    (hx : ρ x = .pointer (some ⟨w.heap.size, 0, none⟩)) (cs : List Value) (hy : ρ y = .agg cs.toArray) (hfit : c.size = cs.length)
    (h1 : ∀ v ∈ cs, v.oneCell' = true) (hi : (P.info? ty).map (·.size) = some cs.length) :
    (execOp ρ o).run P (w.alloc (.cells c t)) = .ok .skip (w.alloc (.cells cs.toArray t)) := by
  have h := exec_store_seg (P := P) (o := o) (w.alloc (.cells c t)) ty x y ho w.heap.size 0 hx cs hy c t (heap_alloc_new _ _) (by omega) h1 hi
  rw [h, setRow_alloc _ _ _ _ _ _ rfl, splice_all _ _ hfit]

theorem exec_copy_new {ρ : Operand → Value} {o : Oper} (w : World) (d x : Operand) (dT sT elem : TypeId) (ho : o.op = .call { callee := .builtin .copy, args := #[d, x], argTypes := #[dT, sT] }) (c : Array Value) (t : TypeId)
    (off dLen dCap : Nat) (s : ByteArray) (hd : ρ d = .slice (some ⟨w.heap.size, off, none⟩) dLen dCap) (hx : ρ x = .string s)
    (hu : P.underlying dT = some (.slice elem)) (hs : (P.info? elem).map (·.size) = some 1) (hle : s.size ≤ dLen) (hfit : off + s.size ≤ c.size) :
    (execOp ρ o).run P (w.alloc (.cells c t)) = .ok (.value (goInt s.size)) (w.alloc (.cells (splice c off (s.data.toList.map fun b => .int .u8 (b.toNat : Int))) t)) := by
  have h := run_copy_str (P := P) (w.alloc (.cells c t)) dT sT o.type elem w.heap.size off dLen dCap s c t hu hs (heap_alloc_new _ _) hle hfit
  rw [setRow_alloc _ _ _ _ _ _ rfl] at h
  unfold execOp
  simp [ho, resolve, invoke, builtin, hd, hx, h]

theorem AllReady.run {ops : Array Oper} {Q : Exit → Act → World → Prop} {md : Region.Mode} {fuel : Nat} {listed : Array Bool} {a : Act} {w w2 : World} {i : Nat} {o : Oper} {rs : List Nat} (ho : ops[i]? = some o) (hg : o.guard = none) (v : Value)
    (hrun : (execOp a.eval o).run P w = .ok (.value v) w2) (h : wpAny P md ops Q fuel (listed.setIfInBounds i true) (a.put o.dst v) w2)
    (hs : AllReady P md ops Q fuel listed a w rs) : AllReady P md ops Q fuel listed a w (i :: rs) :=
  AllReady.cons ho (fun K' hK => by rw [if_pos (by simp [Region.wanted, hg])]; unfold Oper.wp; rw [hrun]; exact hK _ _ h) hs

theorem AllReady.run0 {ops : Array Oper} {Q : Exit → Act → World → Prop} {md : Region.Mode} {fuel : Nat} {listed : Array Bool} {a : Act} {w w2 : World} {i : Nat} {o : Oper} {rs : List Nat} (ho : ops[i]? = some o) (hg : o.guard = none)
    (hrun : (execOp a.eval o).run P w = .ok .skip w2) (h : wpAny P md ops Q fuel (listed.setIfInBounds i true) (a.put o.dst undef) w2)
    (hs : AllReady P md ops Q fuel listed a w rs) : AllReady P md ops Q fuel listed a w (i :: rs) :=
  AllReady.cons ho (fun K' hK => by rw [if_pos (by simp [Region.wanted, hg])]; unfold Oper.wp; rw [hrun]; exact hK _ _ h) hs

theorem fill_all_aux : ∀ (l : List Value) (k : Nat) (base : Array Value), k + l.length = base.size →
    (l.zipIdx k).foldl (fun cs (x : Value × Nat) => cs.setIfInBounds (0 + x.2) x.1) base = (base.toList.take k ++ l).toArray
  | [], k, base, h => by
    have : base.toList.take k = base.toList := List.take_of_length_le (by simp at h ⊢; omega)
    simp [this]
  | v :: l, k, base, h => by
    simp only [List.zipIdx_cons, List.foldl_cons, Nat.zero_add]
    have ih := fill_all_aux l (k + 1) (base.setIfInBounds k v) (by simp at h ⊢; omega)
    simp only [Nat.zero_add] at ih
    rw [ih]
    congr 1
    have hk : k < base.size := by simp at h; omega
    rw [List.take_add_one]
    simp only [Array.toList_setIfInBounds, List.take_set, List.set_eq_of_length_le, List.getElem?_set, List.length_take, Array.length_toList]
    have h2 : min k base.size ≤ k := by omega
    rw [List.set_eq_of_length_le (by simp; omega)]
    simp [hk]

/-- 'append(l, x)' makes first a row of the one element. -/
theorem exec_buildSlice1 {ρ : Operand → Value} {o : Oper} (w : World) (t e : TypeId) (x : Operand) (ho : o.op = .buildSlice t 1 #[(0, x)]) (cs : List Value) (hx : ρ x = .agg cs.toArray)
    (hu : P.underlying t = some (.slice e)) (hi : (P.info? e).map (·.size) = some cs.length) (hl : cs.length ≤ 16777216) (z : Value) (hz : (zeroValue e).run P w = .ok z w) :
    (execOp ρ o).run P w = .ok (.value (.slice (some ⟨w.heap.size, 0, none⟩) 1 1)) (w.alloc (.cells cs.toArray e)) := by
  cases hq : P.info? e with
  | none => simp [hq] at hi
  | some i =>
    have hs : i.size = cs.length := by simpa [hq] using hi
    have hlim : ¬ (2 ^ 24 < cs.length) := by omega
    have hf : ∀ (base : Array Value), base.size = cs.length → Instr.fill (fun i => some (i * cs.length, cs.length)) base [(0, .agg cs.toArray)] = some cs.toArray := by
      intro base hb
      have h := fill_all_aux cs 0 base (by omega)
      simp only [List.take_zero, List.nil_append] at h
      simp only [Instr.fill, Value.cells, Nat.zero_mul, List.size_toArray, hb]
      simp only [ne_eq, not_true_eq_false, Nat.zero_add, Nat.lt_irrefl, gt_iff_lt, or_self, Bool.false_eq_true, decide_false, if_false]
      simp only [← Array.foldl_toList, Array.toList_zipIdx, Nat.zero_add] at h ⊢
      rw [h]
      rfl
    unfold execOp
    have hsz : (sizeOf e).run P w = .ok cs.length w := by simp [sizeOf, typeInfo, hq, hs]
    have hparts : (Array.map (fun (y : Nat × Operand) => (y.fst, ρ y.snd)) #[(0, x)]).toList = [(0, .agg cs.toArray)] := by simp [hx]
    have hlim2 : ¬ (1 * cs.length > 2 ^ 24) := by omega
    simp only [ho, Instr.buildSlice, Sem.run_bind, run_underlying hu, Result.andThen_ok, hsz, if_neg hlim2, hparts]
    by_cases h0 : 1 * cs.length = 0
    · rw [if_pos h0]
      simp only [Sem.run_bind, Sem.run_pure, Result.andThen_ok]
      rw [hf _ (by simp)]
      simp [newRow]
    · rw [if_neg h0]
      simp only [Sem.run_bind, Sem.run_pure, Result.andThen_ok, hz]
      rw [hf _ (by simp)]
      simp [newRow]

theorem exec_append_own (w : World) (base : Nat) (t e : TypeId) (i : TypeInfo) (z : Value) (size bytes : Nat) (ht : P.underlying t = some (.slice e)) (hi : P.info? e = some i) (hz : i.zero = some z)
    (hsize : i.size = size) (hby : i.bytes = bytes) (hzs : z.cells.size = size) (hsz : 0 < size)
    (v : Value) (n : Nat) (xs : List Value) (hown : w.ownsRow base e size v n xs)
    (a : Addr) (m c : Nat) (news : List Value) (hl : news.length = m * size) (hnews : ∀ j u, news[j]? = some u → w.cell? (a.add j) = some u) (h1 : ∀ u ∈ news, u.oneCell' = true)
    (h63 : n + m ≤ maxLen) (hbytes : (n + m) * bytes ≤ 140737488355328) (hbase : base ≤ w.heap.size) :
    ∃ v' w', (∀ (ρ : Operand → Value) (o : Oper) (s x : Operand), o.op = Op.call { callee := Callee.builtin Builtin.append, args := #[s, x], argTypes := #[t, t] } → ρ s = v → ρ x = .slice (some a) m c → (execOp ρ o).run P w = .ok (.value v') w') ∧
      w'.ownsRow base e size v' (n + m) (xs ++ news) ∧ w.grownBy w' v.ownBlock ∧ (v'.ownBlock = v.ownBlock ∨ v'.ownBlock = some w.heap.size) := by
  obtain ⟨v', w', hrun, h2, h3, -, h4⟩ := run_append_own_at (P := P) w base t t e i z size bytes ht hi hz hsize hby hzs hsz v n xs hown a m c news hl hnews h1 h63 hbytes hbase
  refine ⟨v', w', ?_, h2, h3, h4⟩
  intro ρ o s x ho hs hx
  have hrun2 : (Builtin.append_ #[t, t] o.type #[v, .slice (some a) m c]).run P w = .ok v' w' := hrun
  unfold execOp
  simp [ho, resolve, invoke, builtin, hs, hx, hrun2]

section
variable {ops : Array Oper} {Q : Exit → Act → World → Prop} {md : Region.Mode} {fuel : Nat} {listed : Array Bool} {a : Act} {w w2 w3 : World} {i j : Nat} {rs : List Nat}
theorem AllReady.op (d : Option Tmp) (opr : Op) (ho : (ops[i]?).map (fun o => (o.dst, o.op, o.guard)) = some (d, opr, none)) (v : Value)
    (hrun : ∀ o : Oper, o.op = opr → (execOp a.eval o).run P w = .ok (.value v) w2) (h : wpAny P md ops Q fuel (listed.setIfInBounds i true) (a.put d v) w2)
    (hs : AllReady P md ops Q fuel listed a w rs) : AllReady P md ops Q fuel listed a w (i :: rs) := by
  cases hq : ops[i]? with
  | none => simp [hq] at ho
  | some o =>
    simp [hq] at ho
    obtain ⟨rfl, rfl, hg⟩ := ho
    exact AllReady.run hq hg v (hrun o rfl) h hs
theorem AllReady.op0 (opr : Op) (ho : (ops[i]?).map (fun o => (o.dst, o.op, o.guard)) = some (none, opr, none))
    (hrun : ∀ o : Oper, o.op = opr → (execOp a.eval o).run P w = .ok .skip w2) (h : wpAny P md ops Q fuel (listed.setIfInBounds i true) a w2)
    (hs : AllReady P md ops Q fuel listed a w rs) : AllReady P md ops Q fuel listed a w (i :: rs) := by
  cases hq : ops[i]? with
  | none => simp [hq] at ho
  | some o =>
    simp [hq] at ho
    obtain ⟨hd, rfl, hg⟩ := ho
    exact AllReady.run0 hq hg (hrun o rfl) (by rw [hd]; exact h) hs
theorem any_one (i : Nat) (d : Option Tmp) (opr : Op) (hr : Region.ready md ops listed = [i]) (ho : (ops[i]?).map (fun o => (o.dst, o.op, o.guard)) = some (d, opr, none)) (v : Value)
    (hrun : ∀ o : Oper, o.op = opr → (execOp a.eval o).run P w = .ok (.value v) w2) (h : wpAny P md ops Q fuel (listed.setIfInBounds i true) (a.put d v) w2) : wpAny P md ops Q (fuel + 1) listed a w :=
  wpAny_ready hr (by simp) (AllReady.op d opr ho v hrun h AllReady.nil)
theorem any_one0 (i : Nat) (opr : Op) (hr : Region.ready md ops listed = [i]) (ho : (ops[i]?).map (fun o => (o.dst, o.op, o.guard)) = some (none, opr, none))
    (hrun : ∀ o : Oper, o.op = opr → (execOp a.eval o).run P w = .ok .skip w2) (h : wpAny P md ops Q fuel (listed.setIfInBounds i true) a w2) : wpAny P md ops Q (fuel + 1) listed a w :=
  wpAny_ready hr (by simp) (AllReady.op0 opr ho hrun h AllReady.nil)
theorem any_two (i j : Nat) (d : Option Tmp) (opr : Op) (d2 : Option Tmp) (opr2 : Op) (hr : Region.ready md ops listed = [i, j]) (ho : (ops[i]?).map (fun o => (o.dst, o.op, o.guard)) = some (d, opr, none))
    (ho2 : (ops[j]?).map (fun o => (o.dst, o.op, o.guard)) = some (d2, opr2, none)) (v v2 : Value)
    (hrun : ∀ o : Oper, o.op = opr → (execOp a.eval o).run P w = .ok (.value v) w2) (hrun2 : ∀ o : Oper, o.op = opr2 → (execOp a.eval o).run P w = .ok (.value v2) w3)
    (h : wpAny P md ops Q fuel (listed.setIfInBounds i true) (a.put d v) w2) (h2 : wpAny P md ops Q fuel (listed.setIfInBounds j true) (a.put d2 v2) w3) : wpAny P md ops Q (fuel + 1) listed a w :=
  wpAny_ready hr (by simp) (AllReady.op d opr ho v hrun h (AllReady.op d2 opr2 ho2 v2 hrun2 h2 AllReady.nil))
/-- An operation that yields in whatever world, and is free of the others, is taken first. -/
theorem any_take (i : Nat) (d : Option Tmp) (opr : Op) (v : Value) (ho : (ops[i]?).map (fun o => (o.dst, o.op, o.guard)) = some (d, opr, none)) (hs : Region.noSelect ops = true) (hf : Region.free md ops listed i = true) (hr : (Region.ready md ops listed).contains i = true)
    (hQ : ∀ c a w, Q (.panic c) (a.put d v) w → Q (.panic c) a w) (hy : ∀ (o : Oper), o.op = opr → ∀ w, (execOp a.eval o).run P w = .ok (.value v) w)
    (h : wpAny P md ops Q fuel (listed.setIfInBounds i true) (a.put d v) w) : wpAny P md ops Q (fuel + 1) listed a w := by
  cases hq : ops[i]? with
  | none => simp [hq] at ho
  | some o =>
    simp [hq] at ho
    obtain ⟨rfl, rfl, hg⟩ := ho
    exact wpAny_take hq hs hf hr hQ (Or.inl ⟨by simp [Region.wanted, hg], hy o rfl⟩) h
end

theorem exec_load_one {ρ : Operand → Value} {o : Oper} (w : World) (ty : TypeId) (x : Operand) (ho : o.op = .load ty x) (ad : Addr) (hx : ρ x = .pointer (some ad)) (v : Value) (hc : w.cell? ad = some v)
    (d : TypeDesc) (hu : P.underlying ty = some d) (hd : (match d with | .struct _ | .array _ _ => true | _ => false) = false) : (execOp ρ o).run P w = .ok (.value v) w := by
  have hagg : (isAgg ty).run P w = .ok false w := by
    unfold isAgg
    rw [Sem.run_bind, run_underlying hu w]
    cases d <;> simp_all
  unfold execOp
  simp [ho, hx, Instr.loadAt, Instr.sureAddr, loadVar, hagg, hc]

theorem exec_store_one {ρ : Operand → Value} {o : Oper} (w : World) (ty : TypeId) (x y : Operand) (ho : o.op = .store ty x y) (ad : Addr) (hx : ρ x = .pointer (some ad)) (v : Value) (hy : ρ y = v)
    (h1 : v.oneCell' = true) (h2 : v.cells = #[v]) (u : Value) (hc : w.cell? ad = some u) (hf : w.frozen? ad = false) (hi : (P.info? ty).map (·.size) = some 1) : (execOp ρ o).run P w = .ok .skip (w.setCell ad v) := by
  cases hq : P.info? ty with
  | none => simp [hq] at hi
  | some i =>
    have hs : i.size = 1 := by simpa [hq] using hi
    have hst : (store ad v).run P w = .ok () (w.setCell ad v) := by rw [run_store P w ad v .plain h1]; simp [hc, hf]
    unfold execOp
    simp [ho, hx, hy, Instr.storeAt, Instr.sureAddr, storeVar, sizeOf, typeInfo, hq, hs, h2, storeCells]
    rw [Addr.add_zero', hst]; rfl

theorem exec_move {ρ : Operand → Value} {o : Oper} (x : Operand) (ho : o.op = .move x) (v : Value) (hx : ρ x = v) (w : World) : (execOp ρ o).run P w = .ok (.value v) w := by
  subst hx; unfold execOp; simp [ho]
theorem exec_nilCheck {ρ : Operand → Value} {o : Oper} (x : Operand) (ho : o.op = .nilCheck x) (ad : Addr) (hx : ρ x = .pointer (some ad)) (w : World) : (execOp ρ o).run P w = .ok (.value (.pointer (some ad))) w := by
  unfold execOp; simp [ho, hx]

end
end Go.Proofs.YtfcnfcolhahghaaDoor