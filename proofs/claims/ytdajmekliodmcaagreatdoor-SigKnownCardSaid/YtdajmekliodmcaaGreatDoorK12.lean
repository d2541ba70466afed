/- Several texts, one behind the other; each says by itself what it proves, and on what conditions. -/
import Derived.Test.YtdajmekliodmcaaGreatDoorK11
import Derived.Test.YtdajmekliodmcaaGreatDoorRows
import Derived.WalkKit
import Derived.WalkSpells
import Derived.WalkLawsBesides
import Derived.Handy
import Derived.Lib.Hide
import Derived.RegionTactic
import Derived.Maps.AppendAt
import Derived.Outline
import Derived.BigQuiet
import Derived.Deep.QuietTactic
import Derived.OneCell
import Derived.Deep.RegionWith
import Derived.Deep.RegionHeld3
import Derived.StillTailTactics
import Derived.Deep.DeepCutAuto
import Derived.Deep.CutBlock
namespace Go.Proofs.YtdajmekliodmcaaGreatDoor.W4
open Go.Proofs.YtdajmekliodmcaaGreatDoor.P8
open Go.RowKit
set_option linter.unusedVariables false
set_option linter.unusedSimpArgs false
section
variable {P : Program}
theorem addr_add (g o j : Nat) : (⟨g, o, none⟩ : Addr).add j = ⟨g, o + j, none⟩ := by unfold Addr.add; split <;> simp_all
theorem run_loadVar_seg (w : World) (ty : TypeId) (g off : Nat) (cs : List Value) (d : TypeDesc) (hc : ∀ j v, cs[j]? = some v → w.cell? ⟨g, off + j, none⟩ = some v)
    (hu : P.underlying ty = some d) (hd : (match d with | .struct _ | .array _ _ => true | _ => false) = true) (hi : (P.info? ty).map (·.size) = some cs.length) :
    (loadVar ty ⟨g, off, none⟩).run P w = .ok (.agg cs.toArray) w := by
  have hl : (loadCells ⟨g, off, none⟩ cs.length).run P w = .ok cs.toArray w :=
    run_loadCells_list (P := P) w ⟨g, off, none⟩ cs (fun j v hv => by rw [addr_add]; exact hc j v hv)
  cases hq : P.info? ty with
  | none => simp [hq] at hi
  | some i =>
    have hs : i.size = cs.length := by simpa [hq] using hi
    have hagg : (isAgg ty).run P w = .ok true w := by
      unfold isAgg
      rw [Sem.run_bind, run_underlying hu w]
      cases d <;> simp_all
    simp [loadVar, Sem.run_bind, hagg, sizeOf, typeInfo, hq, hs, hl]
theorem wp_load_seg {o : Oper} {a : Act} {w : World} {K : Act → World → Prop} {Q : Exit → Act → World → Prop} (ty : TypeId) (x : Operand) (ho : o.op = .load ty x)
    (g off : Nat) (hx : a.eval x = .pointer (some ⟨g, off, none⟩)) (cs : List Value) (d : TypeDesc) (hc : ∀ j v, cs[j]? = some v → w.cell? ⟨g, off + j, none⟩ = some v)
    (hu : P.underlying ty = some d) (hd : (match d with | .struct _ | .array _ _ => true | _ => false) = true) (hi : (P.info? ty).map (·.size) = some cs.length)
    (h : K (a.put o.dst (.agg cs.toArray)) w) : o.wp P a w K Q := by
  unfold Oper.wp execOp
  simp only [ho, hx, Instr.loadAt, Instr.sureAddr, Sem.run_bind, Sem.run_pure, Result.andThen_ok, run_loadVar_seg w ty g off cs d hc hu hd hi]
  exact h
theorem wpList_load_seg {ops : Array Oper} {rest : List Oper} {o : Oper} {a : Act} {w : World} {Q : Exit → Act → World → Prop} (hgd : o.guard = none) (ty : TypeId) (x : Operand) (ho : o.op = .load ty x)
    (g off : Nat) (hx : a.eval x = .pointer (some ⟨g, off, none⟩)) (cs : List Value) (d : TypeDesc) (hc : ∀ j v, cs[j]? = some v → w.cell? ⟨g, off + j, none⟩ = some v)
    (hu : P.underlying ty = some d) (hd : (match d with | .struct _ | .array _ _ => true | _ => false) = true) (hi : (P.info? ty).map (·.size) = some cs.length)
    (h : wpList P ops Q rest (a.put o.dst (.agg cs.toArray)) w) : wpList P ops Q (o :: rest) a w :=
  wpList_plain hgd fun _ hK => wp_load_seg ty x ho g off hx cs d hc hu hd hi (hK _ _ h)
theorem run_storeVar_seg (w : World) (ty : TypeId) (g off : Nat) (cur : Array Value) (t : TypeId) (cs : List Value) (hg : w.heap[g]? = some (.cells cur t (0, 0))) (hfit : off + cs.length ≤ cur.size)
    (h1 : ∀ v ∈ cs, v.oneCell' = true) (hi : (P.info? ty).map (·.size) = some cs.length) :
    (storeVar ty ⟨g, off, none⟩ (.agg cs.toArray)).run P w = .ok () (w.setRow g (splice cur off cs)) := by
  have hst := run_storeCells_at P g off t cs 0 cur w hg (by simpa using hfit) h1
  cases hq : P.info? ty with
  | none => simp [hq] at hi
  | some i =>
    have hs : i.size = cs.length := by simpa [hq] using hi
    simp only [Nat.add_zero] at hst
    simp [storeVar, sizeOf, typeInfo, hq, hs, Value.cells, hst, splice]
theorem wp_store_seg {o : Oper} {a : Act} {w : World} {K : Act → World → Prop} {Q : Exit → Act → World → Prop} (ty : TypeId) (x y : Operand) (ho : o.op = .store ty x y)
    (g off : Nat) (hx : a.eval x = .pointer (some ⟨g, off, none⟩)) (cs : List Value) (hy : a.eval y = .agg cs.toArray) (cur : Array Value) (t : TypeId) (hg : w.heap[g]? = some (.cells cur t (0, 0))) (hfit : off + cs.length ≤ cur.size)
    (h1 : ∀ v ∈ cs, v.oneCell' = true) (hi : (P.info? ty).map (·.size) = some cs.length)
    (h : K (a.put o.dst undef) (w.setRow g (splice cur off cs))) : o.wp P a w K Q := by
  unfold Oper.wp execOp
  simp only [ho, hx, hy, Instr.storeAt, Instr.sureAddr, Sem.run_bind, Sem.run_pure, Result.andThen_ok, run_storeVar_seg w ty g off cur t cs hg hfit h1 hi]
  exact h
theorem wpList_store_seg {ops : Array Oper} {rest : List Oper} {o : Oper} {a : Act} {w : World} {Q : Exit → Act → World → Prop} (hgd : o.guard = none) (ty : TypeId) (x y : Operand) (ho : o.op = .store ty x y)
    (g off : Nat) (hx : a.eval x = .pointer (some ⟨g, off, none⟩)) (cs : List Value) (hy : a.eval y = .agg cs.toArray) (cur : Array Value) (t : TypeId) (hg : w.heap[g]? = some (.cells cur t (0, 0))) (hfit : off + cs.length ≤ cur.size)
    (h1 : ∀ v ∈ cs, v.oneCell' = true) (hi : (P.info? ty).map (·.size) = some cs.length)
    (h : wpList P ops Q rest (a.put o.dst undef) (w.setRow g (splice cur off cs))) : wpList P ops Q (o :: rest) a w :=
  wpList_plain hgd fun _ hK => wp_store_seg ty x y ho g off hx cs hy cur t hg hfit h1 hi (hK _ _ h)
theorem exec_load_seg {ρ : Operand → Value} {o : Oper} (w : World) (ty : TypeId) (x : Operand) (ho : o.op = .load ty x)
    (g off : Nat) (hx : ρ x = .pointer (some ⟨g, off, none⟩)) (cs : List Value) (d : TypeDesc) (hc : ∀ j v, cs[j]? = some v → w.cell? ⟨g, off + j, none⟩ = some v)
    (hu : P.underlying ty = some d) (hd : (match d with | .struct _ | .array _ _ => true | _ => false) = true) (hi : (P.info? ty).map (·.size) = some cs.length) :
    (execOp ρ o).run P w = .ok (.value (.agg cs.toArray)) w := by
  unfold execOp
  simp only [ho, hx, Instr.loadAt, Instr.sureAddr, Sem.run_bind, Sem.run_pure, Result.andThen_ok, run_loadVar_seg w ty g off cs d hc hu hd hi]
theorem exec_store_seg {ρ : Operand → Value} {o : Oper} (w : World) (ty : TypeId) (x y : Operand) (ho : o.op = .store ty x y)
    (g off : Nat) (hx : ρ x = .pointer (some ⟨g, off, none⟩)) (cs : List Value) (hy : ρ y = .agg cs.toArray) (cur : Array Value) (t : TypeId) (hg : w.heap[g]? = some (.cells cur t (0, 0))) (hfit : off + cs.length ≤ cur.size)
    (h1 : ∀ v ∈ cs, v.oneCell' = true) (hi : (P.info? ty).map (·.size) = some cs.length) :
    (execOp ρ o).run P w = .ok .skip (w.setRow g (splice cur off cs)) := by
  unfold execOp
  simp only [ho, hx, hy, Instr.storeAt, Instr.sureAddr, Sem.run_bind, Sem.run_pure, Result.andThen_ok, run_storeVar_seg w ty g off cur t cs hg hfit h1 hi]
theorem exec_alloc_agg {ρ : Operand → Value} {o : Oper} (w : World) (ty : TypeId) (ho : o.op = .alloc ty) (cs : Array Value) (hz : (zeroValue ty).run P w = .ok (.agg cs) w) :
    (execOp ρ o).run P w = .ok (.value (.pointer (some ⟨w.heap.size, 0, none⟩))) (w.alloc (.cells cs ty)) := by
  unfold execOp
  simp only [ho, Instr.alloc, Sem.run_bind, hz, Result.andThen_ok, newVar, newRow, Value.cells, run_newObj_alloc, Sem.run_pure]
theorem setRow_alloc (w : World) (c c2 : Array Value) (t : TypeId) (fr : Nat × Nat) (k : Nat) (hk : k = w.heap.size) : (w.alloc (.cells c t fr)).setRow k c2 = w.alloc (.cells c2 t fr) := by
  subst hk
  have e : (w.heap.push (Obj.cells c t fr)).modify w.heap.size (fun | .cells _ elem f => .cells c2 elem f | o => o) = w.heap.push (Obj.cells c2 t fr) := by
    apply Array.ext
    · rw [Array.size_modify, Array.size_push, Array.size_push]
    · intro i h1 h2
      rw [Array.getElem_modify]
      by_cases e : w.heap.size = i
      · subst e; rw [if_pos rfl, Array.getElem_push_eq, Array.getElem_push_eq]
      · have h3 : i < w.heap.size := by rw [Array.size_push] at h2; omega
        rw [if_neg e, Array.getElem_push_lt h3, Array.getElem_push_lt h3]
  unfold World.setRow World.alloc
  exact congrArg (fun h : Array Obj => ({ w with heap := h } : World)) e
theorem exec_store_new {ρ : Operand → Value} {o : Oper} (w : World) (ty : TypeId) (x y : Operand) (ho : o.op = .store ty x y) (c : Array Value) (t : TypeId)
    (hx : ρ x = .pointer (some ⟨w.heap.size, 0, none⟩)) (cs : List Value) (hy : ρ y = .agg cs.toArray) (hfit : c.size = cs.length)
    (h1 : ∀ v ∈ cs, v.oneCell' = true) (hi : (P.info? ty).map (·.size) = some cs.length) :
    (execOp ρ o).run P (w.alloc (.cells c t)) = .ok .skip (w.alloc (.cells cs.toArray t)) := by
  have h := exec_store_seg (P := P) (o := o) (w.alloc (.cells c t)) ty x y ho w.heap.size 0 hx cs hy c t (heap_alloc_new _ _) (by omega) h1 hi
  rw [h, setRow_alloc _ _ _ _ _ _ rfl, splice_all _ _ hfit]
theorem AllReady.run {ops : Array Oper} {Q : Exit → Act → World → Prop} {md : Region.Mode} {fuel : Nat} {listed : Array Bool} {a : Act} {w w2 : World} {i : Nat} {o : Oper} {rs : List Nat} (ho : ops[i]? = some o) (hg : o.guard = none) (v : Value)
    (hrun : (execOp a.eval o).run P w = .ok (.value v) w2) (h : wpAny P md ops Q fuel (listed.setIfInBounds i true) (a.put o.dst v) w2)
    (hs : AllReady P md ops Q fuel listed a w rs) : AllReady P md ops Q fuel listed a w (i :: rs) :=
  AllReady.cons ho (fun K' hK => by rw [if_pos (by simp [Region.wanted, hg])]; unfold Oper.wp; rw [hrun]; exact hK _ _ h) hs
theorem exec_append_own (w : World) (base : Nat) (t e : TypeId) (i : TypeInfo) (z : Value) (size bytes : Nat) (ht : P.underlying t = some (.slice e)) (hi : P.info? e = some i) (hz : i.zero = some z)
    (hsize : i.size = size) (hby : i.bytes = bytes) (hzs : z.cells.size = size) (hsz : 0 < size)
    (v : Value) (n : Nat) (xs : List Value) (hown : w.ownsRow base e size v n xs)
    (a : Addr) (m c : Nat) (news : List Value) (hl : news.length = m * size) (hnews : ∀ j u, news[j]? = some u → w.cell? (a.add j) = some u) (h1 : ∀ u ∈ news, u.oneCell' = true)
    (h63 : n + m ≤ maxLen) (hbytes : (n + m) * bytes ≤ 140737488355328) (hbase : base ≤ w.heap.size) :
    ∃ v' w', (∀ (ρ : Operand → Value) (o : Oper) (s x : Operand), o.op = Op.call { callee := Callee.builtin Builtin.append, args := #[s, x], argTypes := #[t, t] } → ρ s = v → ρ x = .slice (some a) m c → (execOp ρ o).run P w = .ok (.value v') w') ∧
      w'.ownsRow base e size v' (n + m) (xs ++ news) ∧ w.grownBy w' v.ownBlock ∧ (v'.ownBlock = v.ownBlock ∨ v'.ownBlock = some w.heap.size) := by
  obtain ⟨v', w', hrun, h2, h3, -, h4⟩ := run_append_own_at (P := P) w base t t e i z size bytes ht hi hz hsize hby hzs hsz v n xs hown a m c news hl hnews h1 h63 hbytes hbase
  refine ⟨v', w', ?_, h2, h3, h4⟩
  intro ρ o s x ho hs hx
  have hrun2 : (Builtin.append_ #[t, t] o.type #[v, .slice (some a) m c]).run P w = .ok v' w' := hrun
  unfold execOp
  simp [ho, resolve, invoke, builtin, hs, hx, hrun2]
section
variable {ops : Array Oper} {Q : Exit → Act → World → Prop} {md : Region.Mode} {fuel : Nat} {listed : Array Bool} {a : Act} {w w2 w3 : World} {i j : Nat} {rs : List Nat}
theorem AllReady.op (d : Option Tmp) (opr : Op) (ho : (ops[i]?).map (fun o => (o.dst, o.op, o.guard)) = some (d, opr, none)) (v : Value)
    (hrun : ∀ o : Oper, o.op = opr → (execOp a.eval o).run P w = .ok (.value v) w2) (h : wpAny P md ops Q fuel (listed.setIfInBounds i true) (a.put d v) w2)
    (hs : AllReady P md ops Q fuel listed a w rs) : AllReady P md ops Q fuel listed a w (i :: rs) := by
  cases hq : ops[i]? with
  | none => simp [hq] at ho
  | some o =>
    simp [hq] at ho
    obtain ⟨rfl, rfl, hg⟩ := ho
    exact AllReady.run hq hg v (hrun o rfl) h hs
end
end
end Go.Proofs.YtdajmekliodmcaaGreatDoor.W4
namespace Go.Proofs.YtdajmekliodmcaaGreatDoor.W4
set_option linter.unusedSimpArgs false
open Go.Proofs.YtdajmekliodmcaaGreatDoor.P8
open Go.RowKit
set_option linter.unusedVariables false
theorem mask_of (n : Nat) (h0 : 0 < n) (hn : n < 64) : bits BinOp.and IntKind.u64 (IntKind.u64.wrap (-(n : Int))) 63 = ((64 - n : Nat) : Int) := by
  have h : ∀ n : Nat, n < 64 → 0 < n → bits BinOp.and IntKind.u64 (IntKind.u64.wrap (-(n : Int))) 63 = ((64 - n : Nat) : Int) := by decide +kernel
  exact h n hn h0
theorem ret_int {k : IntKind} {a b : Int} (h : a = b) : Ending.returned (.int k a) = .returned (.int k b) := by rw [h]
theorem shl_cast (x m : Nat) : IntKind.u64.wrap ((x : Int) * 2 ^ m) = ((x * 2 ^ m % 18446744073709551616 : Nat) : Int) := by
  rw [← wrapM, Int.natCast_mul, Int.natCast_pow]; rfl
theorem or_turn (x m : Nat) (hx : x < 18446744073709551616) (hm : m < 64) : bits BinOp.or IntKind.u64 (IntKind.u64.wrap ((x : Int) * 2 ^ m)) ((x : Int) / 2 ^ (64 - m)) = ((rorN x (64 - m) : Nat) : Int) := by
  have h := bits_or_u64_nat (x * 2 ^ m % 18446744073709551616) (x / 2 ^ (64 - m)) (Nat.mod_lt _ (by decide)) (div_lt _ hx)
  rw [shl_cast, shr_cast, h]
  unfold rorN
  rw [Nat.or_comm, show 64 - (64 - m) = m by omega]
theorem rot_any (x n : Nat) (hx : x < 18446744073709551616) (h0 : 0 < n) (hn : n < 64) (w : World) :
    Calls Tryz.prog 190 #[.int .u64 x, .int .i64 (-(n : Int))] w fun e w' => e = .returned (.int .u64 (rorN x n)) ∧ w = w' := by
  obtain ⟨m, hm⟩ : ∃ m, 64 - n = m := ⟨_, rfl⟩
  have hb := mask_of n h0 hn
  rw [hm] at hb
  obtain rfl : n = 64 - m := by omega
  have hm1 : m < 64 := by omega
  have HO := Lib.hid (or_turn x m hx hm1)
  clear hm
  go_enter Tryz.func190, Tryz.ntmps190
  go_wp2
  go_ret
  exact ⟨ret_int HO.out, rfl⟩
theorem ror_any (x n : Nat) (k : Int) (hk : k = n) (hx : x < 18446744073709551616) (h0 : 0 < n) (hn : n < 64) (w : World) :
    Calls Tryz.prog 178 #[.int .u64 x, .int .i64 k] w fun e w' => e = .returned (.int .u64 (rorN x n)) ∧ w = w' := by
  subst hk
  go_enter Tryz.func178, Tryz.ntmps178
  go_wp2_with fail
  refine (rot_any x n hx h0 hn _).mono ?_
  rintro e w' ⟨rfl, rfl⟩
  go_wp2
  go_ret
  exact ⟨rfl, rfl⟩
theorem near_any (x : Nat) (hx : x < 18446744073709551616) (w : World) :
    Calls Tryz.prog 188 #[.int .u64 x] w fun e w' => e = .returned (.int .u64 (nearN x)) ∧ w = w' := by
  have l1 := rorN_lt 1 hx
  have l2 := rorN_lt 8 hx
  have x1 := u64_xor_nat (rorN x 1) (rorN x 8) l1 l2
  have x2 : bits .xor .u64 ((rorN x 1 ^^^ rorN x 8 : Nat) : Int) ((x : Int) / 128) = ((nearN x : Nat) : Int) := u64_xor_nat (rorN x 1 ^^^ rorN x 8) (x / 128) (xor_lt l1 l2) (div_lt _ hx)
  have H1 := Lib.hid (ror_any x 1 1 rfl hx (by decide) (by decide))
  have H2 := Lib.hid (ror_any x 8 8 rfl hx (by decide) (by decide))
  generalize rorN x 1 ^^^ rorN x 8 = q at *
  generalize nearN x = r at *
  generalize rorN x 1 = p1 at *
  generalize rorN x 8 = p2 at *
  clear l1 l2
  go_enter Tryz.func188, Tryz.ntmps188
  go_wp2_with fail
  refine (H1.out _).mono ?_
  rintro e w' ⟨rfl, rfl⟩
  go_wp2_with fail
  refine (H2.out _).mono ?_
  rintro e w' ⟨rfl, rfl⟩
  go_wp2
  go_ret
  exact ⟨rfl, rfl⟩
theorem far_any (x : Nat) (hx : x < 18446744073709551616) (w : World) :
    Calls Tryz.prog 189 #[.int .u64 x] w fun e w' => e = .returned (.int .u64 (farN x)) ∧ w = w' := by
  have l1 := rorN_lt 19 hx
  have l2 := rorN_lt 61 hx
  have x1 := u64_xor_nat (rorN x 19) (rorN x 61) l1 l2
  have x2 : bits .xor .u64 ((rorN x 19 ^^^ rorN x 61 : Nat) : Int) ((x : Int) / 64) = ((farN x : Nat) : Int) := u64_xor_nat (rorN x 19 ^^^ rorN x 61) (x / 64) (xor_lt l1 l2) (div_lt _ hx)
  have H1 := Lib.hid (ror_any x 19 19 rfl hx (by decide) (by decide))
  have H2 := Lib.hid (ror_any x 61 61 rfl hx (by decide) (by decide))
  generalize rorN x 19 ^^^ rorN x 61 = q at *
  generalize farN x = r at *
  generalize rorN x 19 = p1 at *
  generalize rorN x 61 = p2 at *
  clear l1 l2
  go_enter Tryz.func189, Tryz.ntmps189
  go_wp2_with fail
  refine (H1.out _).mono ?_
  rintro e w' ⟨rfl, rfl⟩
  go_wp2_with fail
  refine (H2.out _).mono ?_
  rintro e w' ⟨rfl, rfl⟩
  go_wp2
  go_ret
  exact ⟨rfl, rfl⟩
def Row (w : World) (g : Nat) (t : TypeId) (kd : IntKind) (n : Nat) (f : Nat → Nat) : Prop := w.heap[g]? = some (.cells (rowOf kd n f).toArray t (0, 0))
theorem Row.cell {w : World} {g : Nat} {t : TypeId} {kd : IntKind} {n : Nat} {f : Nat → Nat} (h : Row w g t kd n f) (j : Nat) (hj : j < n) : w.cell? ⟨g, j, none⟩ = some (.int kd (f j)) := by
  rw [cell_of_row w g j _ t (0, 0) h, List.getElem?_toArray, rowOf_get _ _ _ _ hj]
theorem Row.free {w : World} {g : Nat} {t : TypeId} {kd : IntKind} {n : Nat} {f : Nat → Nat} (h : Row w g t kd n f) (j : Nat) : w.frozen? ⟨g, j, none⟩ = false := by
  have h' : w.heap[g]? = some (.cells (rowOf kd n f).toArray t (0, 0)) := h
  simp [World.frozen?, h']
theorem Row.lt {w : World} {g : Nat} {t : TypeId} {kd : IntKind} {n : Nat} {f : Nat → Nat} (h : Row w g t kd n f) : g < w.heap.size := lt_of_block h
theorem Row.set {w : World} {g : Nat} {t : TypeId} {kd : IntKind} {n : Nat} {f : Nat → Nat} (h : Row w g t kd n f) (k v : Nat) : Row (w.setCell ⟨g, k, none⟩ (.int kd v)) g t kd n (upd f k v) := by
  unfold Row
  rw [← rowOf_set]
  exact heap_setCell_same w g k _ t _ h
theorem Row.other {w : World} {g : Nat} {t : TypeId} {kd : IntKind} {n : Nat} {f : Nat → Nat} (h : Row w g t kd n f) (a : Addr) (v : Value) (ha : g ≠ a.block) : Row (w.setCell a v) g t kd n f := by
  unfold Row
  rw [heap_setCell_other _ _ _ _ ha]
  exact h
theorem Row.ext {w : World} {g : Nat} {t : TypeId} {kd : IntKind} {n : Nat} {f f' : Nat → Nat} (h : Row w g t kd n f) (he : ∀ j, j < n → f j = f' j) : Row w g t kd n f' := by
  unfold Row
  rw [← rowOf_ext he]; exact h
theorem Row.seg {w : World} {g : Nat} {t : TypeId} {kd : IntKind} {n : Nat} {f : Nat → Nat} (h : Row w g t kd n f) : ∀ j v, (rowOf kd n f)[j]? = some v → w.cell? ⟨g, 0 + j, none⟩ = some v := by
  intro j v hv
  rw [cell_of_row w g (0 + j) _ t (0, 0) h, Nat.zero_add, List.getElem?_toArray, hv]
theorem Row.new (w : World) (t : TypeId) (kd : IntKind) (n : Nat) (f : Nat → Nat) : Row (w.alloc (.cells (rowOf kd n f).toArray t)) w.heap.size t kd n f := heap_alloc_new w _
theorem Row.alloc {w : World} {g : Nat} {t : TypeId} {kd : IntKind} {n : Nat} {f : Nat → Nat} (h : Row w g t kd n f) (o : Obj) : Row (w.alloc o) g t kd n f := by
  unfold Row
  rw [Below.heap_alloc _ _ _ h.lt]; exact h
theorem Row.below {w w' : World} {g : Nat} {t : TypeId} {kd : IntKind} {n : Nat} {f : Nat → Nat} (h : Row w g t kd n f) (hb : Below w.heap.size w w') : Row w' g t kd n f := by
  unfold Row
  rw [hb.block g h.lt]; exact h
theorem Row.drewN {w : World} {g : Nat} {t : TypeId} {kd : IntKind} {n : Nat} {f : Nat → Nat} (h : Row w g t kd n f) (m : Nat) : Row (w.drewN m) g t kd n f := h
theorem Below.drewN' {B : Nat} {a w : World} (h : Below B a w) (m : Nat) : Below B a (w.drewN m) := ⟨h.os, h.tape, h.output, h.size, h.block⟩
theorem replicate_rowOf (kd : IntKind) (n : Nat) : List.replicate n (Value.int kd 0) = rowOf kd n (fun _ => 0) := by
  unfold rowOf
  rw [List.map_const']
  simp
theorem cell_set_ne {w : World} {g j k : Nat} {v x : Value} (hj : j ≠ k) (h : w.cell? ⟨g, j, none⟩ = some x) : (w.setCell ⟨g, k, none⟩ v).cell? ⟨g, j, none⟩ = some x := by
  rw [← h]
  refine World.cell?_setCell_other (a := ⟨g, k, none⟩) (h := by intro e; injection e with _ e2 _; exact hj e2.symm) (w := w) (v := v)
theorem zero63 (w : World) : (zeroValue 178).run Tryz.prog w = .ok (.agg (rowOf .u64 80 (fun _ => 0)).toArray) w := by rw [← replicate_rowOf]; kernel_rfl
theorem size63 (f : Nat → Nat) : (Tryz.prog.info? 178).map (·.size) = some (rowOf .u64 80 f).length := by rw [rowOf_length]; kernel_rfl
def pb (l : List UInt8) (i : Nat) : Nat → Nat
  | 0 => 0
  | m + 1 => pb l i m * 256 + (l.getD (8 * i + m) 0).toNat
theorem pb_lt (l : List UInt8) (i : Nat) : ∀ m, pb l i m < 256 ^ m
  | 0 => by show 0 < 1; omega
  | m + 1 => by
    have h := pb_lt l i m
    have hc := (l.getD (8 * i + m) 0).toNat_lt
    show pb l i m * 256 + _ < 256 ^ m * 256
    omega
theorem pb_be (l : List UInt8) (i : Nat) : pb l i 8 = be l i := by
  simp only [pb, be, Nat.add_zero]
  omega
def WP (l : List UInt8) (k j : Nat) : Nat := pb l j (min 8 (k - 8 * j))
theorem WP_step (l : List UInt8) (k : Nat) (v : Nat) (hv : v = pb l (k / 8) (k % 8) * 256 + (l.getD k 0).toNat) : ∀ j, j < 80 → upd (WP l k) (k / 8) v j = WP l (k + 1) j := by
  intro j _
  unfold upd WP
  by_cases e : j = k / 8
  · rw [if_pos e, hv, e, show min 8 (k + 1 - 8 * (k / 8)) = k % 8 + 1 by omega]
    show _ = pb l (k / 8) (k % 8) * 256 + (l.getD (8 * (k / 8) + k % 8) 0).toNat
    rw [show 8 * (k / 8) + k % 8 = k by omega]
  · rw [if_neg e, show min 8 (k + 1 - 8 * j) = min 8 (k - 8 * j) by omega]
def WTo (l : List UInt8) (k j : Nat) : Nat := if j < k then W l j else 0
theorem WTo_step (l : List UInt8) (k : Nat) (v : Nat) (hv : v = W l k) : ∀ j, j < 80 → upd (WTo l k) k v j = WTo l (k + 1) j := by
  intro j _
  unfold upd WTo
  by_cases e : j = k
  · subst e; rw [if_pos rfl, if_pos (by omega), hv]
  · rw [if_neg e]
    by_cases h : j < k
    · rw [if_pos h, if_pos (by omega)]
    · rw [if_neg h, if_neg (by omega)]
theorem WP_end (l : List UInt8) : ∀ j, j < 80 → WP l 128 j = WTo l 16 j := by
  intro j _
  unfold WP WTo
  by_cases h : j < 16
  · rw [if_pos h, W_low l j h, ← pb_be, show min 8 (128 - 8 * j) = 8 by omega]
  · rw [if_neg h, show min 8 (128 - 8 * j) = 0 by omega]; rfl
theorem WP_now (l : List UInt8) (k : Nat) : WP l k (k / 8) = pb l (k / 8) (k % 8) := by
  unfold WP
  rw [show min 8 (k - 8 * (k / 8)) = k % 8 by omega]
theorem or_low (N c : Nat) (hN : N < 72057594037927936) (hc : c < 256) : bits .or .u64 ((N * 256 : Nat) : Int) (c : Int) = ((N * 256 + c : Nat) : Int) := by
  rw [bits_or_u64_nat (N * 256) c (by omega) (by omega)]
  have h := Nat.two_pow_add_eq_or_of_lt (i := 8) (b := c) (by omega) N
  rw [show N * 256 = 2 ^ 8 * N by omega, h]
set_option maxRecDepth 100000 in
set_option maxHeartbeats 1000000 in
theorem words_any (s : ByteArray) (hs : s.size = 128) (w : World) :
    Calls Tryz.prog 177 #[.string s] w fun e w' => e = .returned (.agg (rowOf .u64 80 (W s.data.toList)).toArray) ∧ Below w.heap.size w w' := by
  have HS := Lib.hid hs
  have hs1 : s.size ≤ 128 := by omega
  have hs2 : 128 ≤ s.size := by omega
  clear hs
  obtain ⟨l, hl⟩ : ∃ l, Hid (l = s.data.toList) := ⟨_, Lib.hid rfl⟩
  go_enter Tryz.func177, Tryz.ntmps177
  go_wp2_with (refine wpList_run rfl _ (exec_alloc_agg _ 178 rfl _ (zero63 _)) ?_)
  go_loopw [4, 6] (fun a k0 wr => ∃ k : Nat, k ≤ 128 ∧ k0 = .int .i64 k ∧ Row wr w.heap.size 178 .u64 80 (fun _ => 0) ∧ Row wr (w.heap.size + 1) 178 .u64 80 (WP l k) ∧ Below w.heap.size w wr) (fun _ k _ => 128 - (intOf k).toNat)
  case atStart =>
    refine ⟨0, by omega, rfl, (Row.new w 178 .u64 80 _).alloc _, ?_, ((Below.refl _ w).alloc (Nat.le_refl _) _).alloc (by simp) _⟩
    have := Row.new (w.alloc (.cells (rowOf .u64 80 (fun _ => 0)).toArray 178)) 178 .u64 80 (fun _ => 0)
    rw [World.size_alloc] at this
    refine Row.ext this (fun j _ => ?_)
    unfold WP
    rw [show min 8 (0 - 8 * j) = 0 by omega]; rfl
  case round =>
    obtain ⟨k, hk, rfl, hR0, hR1, hB⟩ := hrel
    have HR0 := Lib.hid hR0
    have HR1 := Lib.hid hR1
    have HBl := Lib.hid hB
    have hz : w.heap.size + 1 < wr.heap.size := hR1.lt
    clear hR0 hR1 hB
    by_cases hlt : k < 128
    · obtain ⟨q, hq0⟩ : ∃ q, q = k / 8 := ⟨_, rfl⟩
      have hq1 : (k : Int) / 8 = (q : Int) := by omega
      have hq2 : Int.tdiv (k : Int) 8 = (q : Int) := by rw [Int.tdiv_eq_ediv_of_nonneg (by omega)]; exact hq1
      have hq16 : q < 16 := by omega
      have hqI : (q : Int) < 80 := by omega
      obtain ⟨N, hN⟩ : ∃ N, Hid (N = pb l q (k % 8)) := ⟨_, Lib.hid rfl⟩
      have hNlt : Hid (N < 72057594037927936) := by
        unfold Hid
        rw [hN.out]
        exact Nat.lt_of_lt_of_le (pb_lt l q (k % 8)) (Nat.le_trans (Nat.pow_le_pow_right (by decide) (show k % 8 ≤ 7 by omega)) (by decide))
      obtain ⟨c, hc0⟩ : ∃ c, c = s[k].toNat := ⟨_, rfl⟩
      have hc : c < 256 := by rw [hc0]; exact UInt8.toNat_lt _
      have hcc : s[k].toNat = c := hc0.symm
      have hcl : (l.getD k 0).toNat = c := by
        rw [hc0, hl.out, List.getD_eq_getElem?_getD, List.getElem?_eq_getElem (show k < s.data.toList.length by show k < s.size; omega)]
        rfl
      have hor := or_low N c hNlt.out hc
      obtain ⟨M, hM⟩ : ∃ M, Hid (M = N * 256) := ⟨_, Lib.hid rfl⟩
      have hsh : IntKind.u64.wrap ((N : Int) * 2 ^ 8) = (M : Int) := by
        have h2 := hNlt.out
        rw [shl_cast N 8, hM.out]
        omega
      have hsh2 : IntKind.u64.wrap ((N : Int) * 256) = (M : Int) := hsh
      rw [← hM.out] at hor
      obtain ⟨R, hR⟩ : ∃ R, Hid (R = M + c) := ⟨_, Lib.hid rfl⟩
      rw [← hR.out] at hor
      have HST : Hid (∀ j, j < 80 → upd (WP l k) q R j = WP l (k + 1) j) := by
        have h := WP_step l k R (by rw [hR.out, hM.out, hN.out, hcl, hq0])
        rw [← hq0] at h
        exact h
      have cl : wr.cell? ⟨w.heap.size + 1, q, none⟩ = some (.int .u64 N) := by
        rw [HR1.out.cell q (by omega), hN.out, hq0, WP_now]
      have fr : wr.frozen? ⟨w.heap.size + 1, q, none⟩ = false := HR1.out.free q
      have hltI : (k : Int) < s.size := by omega
      clear hN hNlt hM hR hcl hc0 hq0
      go_wp2
      go_region
      all_goals
        go_wp2
        go_roundw
        case rel =>
          refine ⟨k + 1, by omega, by go_num, ?_, ?_, ?_⟩
          · exact Row.other (w := wr) HR0.out _ _ (by simp)
          · exact Row.ext (Row.set (w := wr) HR1.out q R) HST.out
          · exact (Below.setCell (B := w.heap.size) (a := w) (w := wr) HBl.out (p := ⟨w.heap.size + 1, q, none⟩) (Nat.le_succ _) _).drew
        case measure => simp [intOf]; omega
    · obtain rfl : k = 128 := by omega
      have HR1 : Hid (Row wr (w.heap.size + 1) 178 .u64 80 (WTo l 16)) := Row.ext HR1.out (WP_end l)
      rw [show ((128 : Nat) : Int) = (128 : Int) from rfl]
      go_wp2
      obtain ⟨wo, rfl⟩ : ∃ wo : World, wo = wr := ⟨_, rfl⟩
      go_loopw [5] (fun i wr => ∃ k : Nat, 16 ≤ k ∧ k ≤ 80 ∧ i = .int .i64 k ∧ Row wr w.heap.size 178 .u64 80 (fun _ => 0) ∧ Row wr (w.heap.size + 1) 178 .u64 80 (WTo l k) ∧ Below w.heap.size w wr) (fun i _ => 80 - (intOf i).toNat)
      case atStart => exact ⟨16, by omega, by omega, rfl, HR0.out, HR1.out, HBl.out⟩
      case round =>
        clear HR0 HR1 HBl hz
        obtain ⟨k, hk1, hk, rfl, hR0, hR1, hB⟩ := hrel
        have HR0 := Lib.hid hR0
        have HR1 := Lib.hid hR1
        have HBl := Lib.hid hB
        have hz : w.heap.size + 1 < wr.heap.size := hR1.lt
        clear hR0 hR1 hB
        by_cases hlt2 : k < 80
        · have hk80 : (k : Int) < 80 := by omega
          obtain ⟨j16, hj16⟩ : ∃ j, j = k - 16 := ⟨_, rfl⟩
          have w16 : IntKind.i64.wrap ((k : Int) - 16) = (j16 : Int) := by rw [IntWalk.i64_in _ (by omega)]; omega
          have b16 : (j16 : Int) < 80 := by omega
          have c16 : wr.cell? ⟨w.heap.size + 1, j16, none⟩ = some (.int .u64 (W l j16)) := by rw [HR1.out.cell j16 (by omega)]; unfold WTo; rw [if_pos (by omega)]
          obtain ⟨j15, hj15⟩ : ∃ j, j = k - 15 := ⟨_, rfl⟩
          have w15 : IntKind.i64.wrap ((k : Int) - 15) = (j15 : Int) := by rw [IntWalk.i64_in _ (by omega)]; omega
          have b15 : (j15 : Int) < 80 := by omega
          have c15 : wr.cell? ⟨w.heap.size + 1, j15, none⟩ = some (.int .u64 (W l j15)) := by rw [HR1.out.cell j15 (by omega)]; unfold WTo; rw [if_pos (by omega)]
          obtain ⟨j7, hj7⟩ : ∃ j, j = k - 7 := ⟨_, rfl⟩
          have w7 : IntKind.i64.wrap ((k : Int) - 7) = (j7 : Int) := by rw [IntWalk.i64_in _ (by omega)]; omega
          have b7 : (j7 : Int) < 80 := by omega
          have c7 : wr.cell? ⟨w.heap.size + 1, j7, none⟩ = some (.int .u64 (W l j7)) := by rw [HR1.out.cell j7 (by omega)]; unfold WTo; rw [if_pos (by omega)]
          obtain ⟨j2, hj2⟩ : ∃ j, j = k - 2 := ⟨_, rfl⟩
          have w2 : IntKind.i64.wrap ((k : Int) - 2) = (j2 : Int) := by rw [IntWalk.i64_in _ (by omega)]; omega
          have b2 : (j2 : Int) < 80 := by omega
          have c2 : wr.cell? ⟨w.heap.size + 1, j2, none⟩ = some (.int .u64 (W l j2)) := by rw [HR1.out.cell j2 (by omega)]; unfold WTo; rw [if_pos (by omega)]
          have cl : wr.cell? ⟨w.heap.size + 1, k, none⟩ = some (.int .u64 (WTo l k k)) := HR1.out.cell k (by omega)
          have fr : wr.frozen? ⟨w.heap.size + 1, k, none⟩ = false := HR1.out.free k
          have HW : Hid (add (add (add (W l j16) (nearN (W l j15))) (W l j7)) (farN (W l j2)) = W l k) := by unfold Hid; rw [hj16, hj15, hj7, hj2]; exact (W_high l k hk1).symm
          have HN := Lib.hid (near_any (W l j15) (W_lt l _))
          have HF := Lib.hid (far_any (W l j2) (W_lt l _))
          have n16 : Hid (j16 ≠ k) := Lib.hid (by omega)
          clear hj16
          have n15' : Hid (j15 ≠ k) := Lib.hid (by omega)
          clear hj15
          have n7 : Hid (j7 ≠ k) := Lib.hid (by omega)
          clear hj7
          have n2' : Hid (j2 ≠ k) := Lib.hid (by omega)
          clear hj2
          generalize W l j16 = a16 at *
          generalize nearN (W l j15) = n15 at *
          generalize W l j15 = a15 at *
          generalize W l j7 = a7 at *
          generalize farN (W l j2) = n2 at *
          generalize W l j2 = a2 at *
          generalize WTo l k k = old at *
          go_wp2
          go_region_held3 (fun w' => w'.cell? ⟨w.heap.size + 1, j16, none⟩ = some (.int .u64 a16) ∧ w'.cell? ⟨w.heap.size + 1, j15, none⟩ = some (.int .u64 a15) ∧ w'.cell? ⟨w.heap.size + 1, j7, none⟩ = some (.int .u64 a7) ∧ w'.cell? ⟨w.heap.size + 1, j2, none⟩ = some (.int .u64 a2)) (first | exact ⟨c16, c15, c7, c2⟩ | exact ⟨cell_set_ne n16.out c16, cell_set_ne n15'.out c15, cell_set_ne n7.out c7, cell_set_ne n2'.out c2⟩) (first | (go_at_call 188; (with_reducible refine (HN.out _).mono ?_); rintro e w' ⟨rfl, rfl⟩) | (go_at_call 189; (with_reducible refine (HF.out _).mono ?_); rintro e w' ⟨rfl, rfl⟩))
          clear c16 c15 c7 c2 cl fr w16 w15 w7 w2 b16 b15 b7 b2
          go_wp2
          go_roundw
          case rel =>
            refine ⟨k + 1, by omega, by omega, by go_num, ?_, ?_, ?_⟩
            · exact Row.other (w := wr) HR0.out _ _ (by simp)
            · have h := Row.ext (Row.set (w := wr) HR1.out k (W l k)) (WTo_step l k (W l k) rfl)
              rw [← HW.out] at h
              exact h
            · exact (Below.setCell (B := w.heap.size) (a := w) (w := wr) HBl.out (p := ⟨w.heap.size + 1, k, none⟩) (Nat.le_succ _) _).drew
          case measure => simp [intOf]; omega
        · obtain rfl : k = 80 := by omega
          have hfull : Row wr (w.heap.size + 1) 178 .u64 80 (W l) := Row.ext HR1.out (fun j hj => by unfold WTo; rw [if_pos hj])
          obtain ⟨cs, hcs⟩ : ∃ cs, Hid (cs = rowOf .u64 80 (W l)) := ⟨_, Lib.hid rfl⟩
          have hseg : Hid (∀ j v, cs[j]? = some v → wr.cell? ⟨w.heap.size + 1, 0 + j, none⟩ = some v) := by unfold Hid; rw [hcs.out]; exact hfull.seg
          have hsz : Hid ((Tryz.prog.info? 178).map (·.size) = some cs.length) := by unfold Hid; rw [hcs.out]; exact size63 _
          have hone : Hid (∀ v ∈ cs, v.oneCell' = true) := by unfold Hid; rw [hcs.out]; exact rowOf_one _ _ _
          have hlen : Hid (cs.length = 80) := by unfold Hid; rw [hcs.out, rowOf_length]
          have hfit : Hid (0 + cs.length ≤ (rowOf .u64 80 (fun _ => 0)).toArray.size) := by unfold Hid; rw [hlen.out, rowOf_size]; exact Nat.le_refl _
          go_wp2_with (first | (refine wpList_load_seg rfl 178 (.tmp 3) rfl (w.heap.size + 1) 0 rfl cs _ hseg.out Tryz.underlying178 rfl hsz.out ?_) | (refine wpList_store_seg rfl 178 (.tmp 2) (.tmp 50) rfl w.heap.size 0 rfl cs rfl _ 178 HR0.out hfit.out hone.out hsz.out ?_))
          have hsp : splice (rowOf .u64 80 (fun _ => 0)).toArray 0 cs = cs.toArray := splice_all _ _ (by rw [hlen.out, rowOf_size])
          rw [hsp]
          have hld : (loadVar 178 ⟨w.heap.size, 0, none⟩).run Tryz.prog (wr.setRow w.heap.size cs.toArray) = .ok (.agg cs.toArray) (wr.setRow w.heap.size cs.toArray) := by
            refine run_loadVar_seg _ 178 w.heap.size 0 cs _ (fun j v hv => ?_) Tryz.underlying178 rfl hsz.out
            rw [cell_of_row _ w.heap.size (0 + j) cs.toArray 178 (0, 0) (setRow_heap _ _ _ _ _ _ HR0.out), Nat.zero_add, List.getElem?_toArray, hv]
          have hbel : Below w.heap.size w (wr.setRow w.heap.size cs.toArray) := by
            exact HBl.out.trans ⟨rfl, rfl, rfl, by simp, fun k hk => setRow_other _ _ _ _ (by omega)⟩
          generalize wr.setRow w.heap.size cs.toArray = W2 at *
          exact bodyPost_ret (v := .agg cs.toArray) (results_cell rfl _ _ _ ⟨w.heap.size, 0, none⟩ rfl _ hld) rfl ⟨by rw [hcs.out, hl.out], hbel⟩
theorem quiet_left {P : Program} {f : FuncId} {args : Array Value} {w : World} {n : Nat} {v : Value}
    (h : Calls P f args (w.drewN n) fun e w' => e = .returned v ∧ w.drewN n = w') : Calls P f args (w.drewN n) fun e w'' => e = .returned v ∧ ∃ m, w'' = w.drewN m :=
  h.mono fun _ _ ⟨he, hm⟩ => ⟨he, n, hm.symm⟩
def cells (s : St) : List Value := [.int .u64 s.a, .int .u64 s.b, .int .u64 s.c, .int .u64 s.d, .int .u64 s.e, .int .u64 s.f, .int .u64 s.g, .int .u64 s.h]
theorem cells_size (s : St) : (Tryz.prog.info? 121).map (·.size) = some (cells s).length := by rw [show (cells s).length = 8 from rfl]; kernel_rfl
theorem cells_one (s : St) : ∀ v ∈ cells s, v.oneCell' = true := by
  intro v hv
  simp [cells] at hv
  rcases hv with rfl | rfl | rfl | rfl | rfl | rfl | rfl | rfl <;> rfl
def s0 : St := ⟨0, 0, 0, 0, 0, 0, 0, 0⟩
theorem zero32 (w : World) : (zeroValue 121).run Tryz.prog w = .ok (.agg (cells s0).toArray) w := by kernel_rfl
def St.at (s : St) : Nat → Nat
  | 0 => s.a
  | 1 => s.b
  | 2 => s.c
  | 3 => s.d
  | 4 => s.e
  | 5 => s.f
  | 6 => s.g
  | _ => s.h
theorem cells_row (s : St) : cells s = rowOf .u64 8 s.at := rfl
theorem idx32 (t : St) (i : Nat) (hi : i < 8) (w : World) : (Instr.index 121 (.agg #[.int .u64 t.a, .int .u64 t.b, .int .u64 t.c, .int .u64 t.d, .int .u64 t.e, .int .u64 t.f, .int .u64 t.g, .int .u64 t.h]) (.int .i64 i)).run Tryz.prog w = .ok (.int .u64 (t.at i)) w := by
  rcases (show i = 0 ∨ i = 1 ∨ i = 2 ∨ i = 3 ∨ i = 4 ∨ i = 5 ∨ i = 6 ∨ i = 7 by omega) with rfl | rfl | rfl | rfl | rfl | rfl | rfl | rfl <;> kernel_rfl
def PTo (s t : St) (i j : Nat) : Nat := if j < i then add (s.at j) (t.at j) else s.at j
theorem PTo_step (s t : St) (i : Nat) : ∀ j, j < 8 → upd (PTo s t i) i (add (s.at i) (t.at i)) j = PTo s t (i + 1) j := by
  intro j _
  unfold upd PTo
  by_cases e : j = i
  · subst e; rw [if_pos rfl, if_pos (by omega)]
  · rw [if_neg e]
    by_cases h : j < i
    · rw [if_pos h, if_pos (by omega)]
    · rw [if_neg h, if_neg (by omega)]
theorem PTo_all (s t : St) : rowOf .u64 8 (PTo s t 8) = cells (plus s t) := rfl
theorem wadd (a b : Nat) : IntKind.u64.wrap ((a : Int) + (b : Int)) = ((add a b : Nat) : Int) := wrapM (a + b)
theorem u_int (t : St) (ht : t.ok) (k w : Nat) : IntKind.u64.wrap (IntKind.u64.wrap (IntKind.u64.wrap (IntKind.u64.wrap ((t.h : Int) + bits BinOp.xor IntKind.u64 (bits BinOp.xor IntKind.u64 ((rorN t.e 14 : Nat) : Int) ((rorN t.e 18 : Nat) : Int)) ((rorN t.e 41 : Nat) : Int)) +
    bits BinOp.xor IntKind.u64 (bits BinOp.and IntKind.u64 (t.e : Int) (t.f : Int)) (bits BinOp.and IntKind.u64 (bits BinOp.xor IntKind.u64 (if IntKind.u64.signed = true then -1 else IntKind.u64.max) (t.e : Int)) (t.g : Int))) + (k : Int)) + (w : Int)) = ((uN t k w : Nat) : Int) := by
  obtain ⟨h1, h2, h3, h4, h5, h6, h7, h8⟩ := ht
  have e1 := u64_xor_nat _ _ (rorN_lt 14 h5) (rorN_lt 18 h5)
  have e2 := u64_xor_nat _ _ (xor_lt (rorN_lt 14 h5) (rorN_lt 18 h5)) (rorN_lt 41 h5)
  have e3 := bits_and_u64_nat t.e t.f h5 h6
  have e4 : bits BinOp.xor IntKind.u64 (if IntKind.u64.signed = true then -1 else IntKind.u64.max) (t.e : Int) = ((18446744073709551615 ^^^ t.e : Nat) : Int) := u64_xor_nat 18446744073709551615 t.e (by decide) h5
  have hx : 18446744073709551615 ^^^ t.e < 18446744073709551616 := xor_lt (by decide) h5
  have e5 := bits_and_u64_nat (18446744073709551615 ^^^ t.e) t.g hx h7
  have e6 := u64_xor_nat (t.e &&& t.f) ((18446744073709551615 ^^^ t.e) &&& t.g) (and_lt h5) (and_lt hx)
  rw [e1, e2, e3, e4, e5, e6, wadd, wadd, wadd, wadd]
  rfl
theorem v_int (t : St) (ht : t.ok) : IntKind.u64.wrap (bits BinOp.xor IntKind.u64 (bits BinOp.xor IntKind.u64 ((rorN t.a 28 : Nat) : Int) ((rorN t.a 34 : Nat) : Int)) ((rorN t.a 39 : Nat) : Int) +
    bits BinOp.xor IntKind.u64 (bits BinOp.xor IntKind.u64 (bits BinOp.and IntKind.u64 (t.a : Int) (t.b : Int)) (bits BinOp.and IntKind.u64 (t.a : Int) (t.c : Int))) (bits BinOp.and IntKind.u64 (t.b : Int) (t.c : Int))) = ((vN t : Nat) : Int) := by
  obtain ⟨h1, h2, h3, h4, h5, h6, h7, h8⟩ := ht
  have e1 := u64_xor_nat _ _ (rorN_lt 28 h1) (rorN_lt 34 h1)
  have e2 := u64_xor_nat _ _ (xor_lt (rorN_lt 28 h1) (rorN_lt 34 h1)) (rorN_lt 39 h1)
  have e3 := bits_and_u64_nat t.a t.b h1 h2
  have e4 := bits_and_u64_nat t.a t.c h1 h3
  have e5 := bits_and_u64_nat t.b t.c h2 h3
  have e6 := u64_xor_nat (t.a &&& t.b) (t.a &&& t.c) (and_lt h1) (and_lt h1)
  have e7 := u64_xor_nat ((t.a &&& t.b) ^^^ (t.a &&& t.c)) (t.b &&& t.c) (xor_lt (and_lt h1) (and_lt h1)) (and_lt h2)
  rw [e1, e2, e3, e4, e5, e6, e7, wadd]
  rfl
def loopsOf : Code → List Code
  | .loop c => [c]
  | .seq a b => loopsOf a ++ loopsOf b
  | .block _ c => loopsOf c
  | .scope c => loopsOf c
  | .cond _ a b => loopsOf a ++ loopsOf b
  | _ => []
theorem mulHi_lt {x y : Nat} (hx : x < 18446744073709551616) (hy : y < 18446744073709551616) : mulHi x y < 18446744073709551616 := by
  unfold mulHi
  have h : x * y ≤ 18446744073709551615 * 18446744073709551615 := Nat.mul_le_mul (Nat.le_of_lt_succ hx) (Nat.le_of_lt_succ hy)
  generalize x * y = z at *
  omega
theorem mulLo_lt (x y : Nat) : mulLo x y < 18446744073709551616 := Nat.mod_lt _ (by decide)
def N4.ok (x : N4) : Prop := x.a < 18446744073709551616 ∧ x.b < 18446744073709551616 ∧ x.c < 18446744073709551616 ∧ x.d < 18446744073709551616
end Go.Proofs.YtdajmekliodmcaaGreatDoor.W4
