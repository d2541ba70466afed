/- Several texts, one behind the other; each says by itself what it proves, and on what conditions. -/
import Derived.Test.YtgbliacncahooaaDoorGPtA
/- Single operations of the walks: bits of a word, places, what is even. No condition but what each names. -/
namespace Go.Proofs.YtgbliacncahooaaDoor
open Go.RowKit Go.Shelf
set_option linter.unusedVariables false
set_option linter.unusedSimpArgs false
theorem exec_and22 {ρ : Operand → Value} {o : Oper} (x : Operand) (ho : o.op = .binOp .and 22 x (.const (.int .u64 1)) 22) (hc : ρ (.const (.int .u64 1)) = .int .u64 1) (d r : Nat) (hd : d < 18446744073709551616) (hx : ρ x = .int .u64 (d : Int)) (hr : r = d % 2) (w : World) :
    (execOp ρ o).run Tryd.prog w = .ok (.value (.int .u64 (r : Int))) w := by
  have hb := and_one d r hd hr
  clear hr
  unfold execOp
  rw [ho]
  simp only [hx, hc]
  go_simp
theorem exec_gtr22 {ρ : Operand → Value} {o : Oper} (x : Operand) (ho : o.op = .binOp .gtr 22 x (.const (.int .u64 0)) 22) (hc : ρ (.const (.int .u64 0)) = .int .u64 0) (y : Nat) (b : Bool) (hx : ρ x = .int .u64 (y : Int)) (hb : b = decide (0 < y)) (w : World) :
    (execOp ρ o).run Tryd.prog w = .ok (.value (.bool b)) w := by
  have hd := hb.symm
  clear hb
  unfold execOp
  rw [ho]
  simp only [hx, hc]
  go_simp
theorem exec_eql22 {ρ : Operand → Value} {o : Oper} (x : Operand) (ho : o.op = .binOp .eql 22 x (.const (.int .u64 1)) 22) (hc : ρ (.const (.int .u64 1)) = .int .u64 1) (y : Nat) (b : Bool) (hx : ρ x = .int .u64 (y : Int)) (hb : b = ((y : Int) == 1)) (w : World) :
    (execOp ρ o).run Tryd.prog w = .ok (.value (.bool b)) w := by
  have hd := hb.symm
  clear hb
  unfold execOp
  rw [ho]
  simp only [hx, hc]
  go_simp
end Go.Proofs.YtgbliacncahooaaDoor
/- Numbers and points held against one another; what is not. No condition but what each names. -/
namespace Go.Proofs.YtgbliacncahooaaDoor
open Go.RowKit Go.Shelf
set_option linter.unusedVariables false
set_option linter.unusedSimpArgs false
section
variable {P : Program} {ops : Array Oper} {Q : Exit → Act → World → Prop} {md : Region.Mode} {S : World → Prop} {f n : Nat} {listed : Array Bool} {a : Act} {w w2 : World} {rs : List Nat}
/-- An operation whose guard is not met is passed first. -/
theorem AnyF.skipG (hfn : ops[f]? = none) (i : Nat) (d : Option Tmp) (opr : Op) (gd : Option (Nat × Bool)) (ho : (ops[i]?).map (fun o => (o.dst, o.op, o.guard)) = some (d, opr, gd)) (hs : Region.noSelect ops = true) (hf : Region.free md ops listed i = true) (hr : (Region.ready md ops listed).contains i = true)
    (hQ : ∀ c a w, Q (.panic c) (a.put d undef) w → Q (.panic c) a w) (hif : (i == f) = false) (hw : ∀ o, ops[i]? = some o → Region.wanted o (yielded ops a.tmps) = false) (hS : S w)
    (h : AnyF P md ops Q S f n (listed.setIfInBounds i true) (a.put d undef) w) : AnyF P md ops Q S f (n + 1) listed a w := by
  cases hq : ops[i]? with
  | none => simp [hq] at ho
  | some o =>
    have hw2 := hw o hq
    simp [hq] at ho
    obtain ⟨rfl, rfl, hg⟩ := ho
    exact AnyF.first hq (Region.noSelect_spec hs) hQ (by simpa using hif) (fun o2 ho2 => by rw [hfn] at ho2; cases ho2) n listed a w (Region.free_spec hq hf) (by simpa using hr) (Or.inr ⟨hw2, rfl⟩) hS h
theorem skG (i : Nat) (d : Option Tmp) (opr : Op) (gd : Option (Nat × Bool)) (hS : S w) (h : AnyF P md ops Q S f n (listed.setIfInBounds i true) (a.put d undef) w)
    (hfn : ops[f]? = none := by rfl) (ho : (ops[i]?).map (fun o => (o.dst, o.op, o.guard)) = some (d, opr, gd) := by rfl) (hs : Region.noSelect ops = true := by kernel_rfl) (hf : Region.free md ops listed i = true := by kernel_rfl) (hr : (Region.ready md ops listed).contains i = true := by kernel_rfl)
    (hQ : ∀ c a w, Q (.panic c) (a.put d undef) w → Q (.panic c) a w := by exact fun _ _ _ h => h) (hif : (i == f) = false := by rfl) (hw : ∀ o, ops[i]? = some o → Region.wanted o (yielded ops a.tmps) = false := by exact fun o h => by obtain rfl := Option.some.inj h; rfl) : AnyF P md ops Q S f (n + 1) listed a w :=
  AnyF.skipG hfn i d opr gd ho hs hf hr hQ hif hw hS h
end
theorem exec_eqv {ρ : Operand → Value} {o : Oper} (x y : Operand) (ho : o.op = .binOp .eql 24 x y 24) (A B : Array Value) {v : Bool} (he : ∀ w, (Op.equalIn 10000 24 (.agg A) (.agg B)).run Tryd.prog w = .ok v w) (hx : ρ x = .agg A) (hy : ρ y = .agg B) (w : World) :
    (execOp ρ o).run Tryd.prog w = .ok (.value (.bool v)) w := by
  have h := he w
  clear he
  unfold execOp
  rw [ho]
  simp only [hx, hy]
  go_simp
theorem exec_nev {ρ : Operand → Value} {o : Oper} (x y : Operand) (ho : o.op = .binOp .neq 24 x y 24) (A B : Array Value) {v : Bool} (he : ∀ w, (Op.equalIn 10000 24 (.agg A) (.agg B)).run Tryd.prog w = .ok v w) {c : Bool} (hc : c = !v) (hx : ρ x = .agg A) (hy : ρ y = .agg B) (w : World) :
    (execOp ρ o).run Tryd.prog w = .ok (.value (.bool c)) w := by
  have h := he w
  subst hc
  clear he
  unfold execOp
  rw [ho]
  simp only [hx, hy]
  go_simp
theorem eq_same {A : Array Value} (hA : IsNum A) (w : World) : (Op.equalIn 10000 24 (.agg A) (.agg A)).run Tryd.prog w = .ok true w := by
  obtain ⟨f, rfl⟩ := hA
  have h := eq24 (f 0) (f 1) (f 2) (f 3) (f 0) (f 1) (f 2) (f 3) w
  simp only [decide_true, Bool.and_self] at h
  exact h
theorem exec_neA {ρ : Operand → Value} {o : Oper} (x y : Operand) (ho : o.op = .binOp .neq 24 x y 24) (A : Array Value) (hA : IsNum A) (hx : ρ x = .agg A) (hy : ρ y = .agg A) (w : World) :
    (execOp ρ o).run Tryd.prog w = .ok (.value (.bool false)) w := exec_nev x y ho A A (eq_same hA) rfl hx hy w
theorem exec_notv {ρ : Operand → Value} {o : Oper} (x : Operand) (ho : o.op = .unOp .not 4 x) (v : Value) (hx : ρ x = v) (c : Bool) (hc : v = .bool (!c)) (w : World) : (execOp ρ o).run Tryd.prog w = .ok (.value (.bool c)) w :=
  exec_notb x ho (!c) c (hx.trans hc) (by simp) w
theorem eq24' (n : Nat) (f : Nat → Nat) (w : World) : (Op.equalIn (n + 2) 24 (.agg (rowOf .u64 4 f).toArray) (.agg (rowOf .u64 4 f).toArray)).run Tryd.prog w = .ok true w := by
  have u3 := Tryd.underlying22
  have a3' := Tryd.isAgg22
  have z3 := Tryd.sizeOf22
  have hl : (rowOf .u64 4 f).toArray = #[.int .u64 (f 0 : Int), .int .u64 (f 1 : Int), .int .u64 (f 2 : Int), .int .u64 (f 3 : Int)] := rfl
  rw [hl, show n + 2 = (n + 1) + 1 from rfl, Op.equalIn]
  simp only [Sem.run_bind, run_underlying Tryd.underlying24, Result.andThen_ok]
  simp only [Std.Legacy.Range.forIn_eq_forIn_range', Std.Legacy.Range.size, Nat.sub_zero, Nat.add_sub_cancel, Nat.div_one, List.range'_succ, List.range'_zero, List.forIn_cons, List.forIn_nil]
  go_simp
theorem eq26 {P : Array Value} (hP : IsRw 8 P) (w : World) : (Op.equalIn 10000 26 (.agg P) (.agg P)).run Tryd.prog w = .ok true w := by
  obtain ⟨f, rfl⟩ := hP
  have hl : (rowOf .u64 8 f).toArray = #[.int .u64 (f 0 : Int), .int .u64 (f 1 : Int), .int .u64 (f 2 : Int), .int .u64 (f 3 : Int), .int .u64 (f 4 : Int), .int .u64 (f 5 : Int), .int .u64 (f 6 : Int), .int .u64 (f 7 : Int)] := rfl
  have h1 := eq24' 9997 f w
  have h2 := eq24' 9997 (fun j => f (j + 4)) w
  have e1 : (rowOf .u64 4 f).toArray = #[.int .u64 (f 0 : Int), .int .u64 (f 1 : Int), .int .u64 (f 2 : Int), .int .u64 (f 3 : Int)] := rfl
  have e2 : (rowOf .u64 4 (fun j => f (j + 4))).toArray = #[.int .u64 (f 4 : Int), .int .u64 (f 5 : Int), .int .u64 (f 6 : Int), .int .u64 (f 7 : Int)] := rfl
  rw [e1] at h1
  rw [e2] at h2
  rw [hl, show (10000 : Nat) = 9999 + 1 from rfl, Op.equalIn]
  simp only [Sem.run_bind, run_underlying Tryd.underlying26, Result.andThen_ok]
  go_simp
theorem exec_eqlG {P : Program} {ρ : Operand → Value} {o : Oper} (ty : TypeId) (x y : Operand) (ho : o.op = .binOp .eql ty x y ty) (a b : Array Value) {v : Bool} (he : ∀ w, (Op.equalIn 10000 ty (.agg a) (.agg b)).run P w = .ok v w) (hx : ρ x = .agg a) (hy : ρ y = .agg b) (hg : P.eqGuardType P.depth ty = false) (w : World) :
    (execOp ρ o).run P w = .ok (.value (.bool v)) w := by
  have h := he w
  unfold execOp
  rw [ho]
  simp only [hx, hy]
  clear ho hx hy
  go_simp
theorem exec_eqP {ρ : Operand → Value} {o : Oper} (x y : Operand) (ho : o.op = .binOp .eql 26 x y 26) (P : Array Value) (hP : IsRw 8 P) (hx : ρ x = .agg P) (hy : ρ y = .agg P) (w : World) :
    (execOp ρ o).run Tryd.prog w = .ok (.value (.bool true)) w := exec_eqlG 26 x y ho _ _ (eq26 hP) hx hy (by kernel_rfl) w
end Go.Proofs.YtgbliacncahooaaDoor
/- Bytes of a call's own, made of a text: what they are, one of them stored, a text of them; the last byte of a point's number. No condition but what each names. -/
namespace Go.Proofs.YtgbliacncahooaaDoor
open Go.RowKit Go.Shelf
set_option linter.unusedVariables false
set_option linter.unusedSimpArgs false
/-- A row of bytes lies in a block (behind it there may be more). -/
def Buf (W : World) (g : Nat) (l : List UInt8) : Prop := ∃ row z, W.heap[g]? = some (.cells row 5 (z, z + 1)) ∧ l.length ≤ z ∧ ∀ j, j < l.length → row[j]? = some (.int .u8 ((l.getD j 0).toNat : Int))
theorem conv_buf (W : World) (l : List UInt8) (hl : l.length = 32) : ∃ cap W', (Go.convert 9 44 (.string ⟨l.toArray⟩)).run Tryd.prog W = .ok (.slice (some ⟨W.heap.size, 0, none⟩) 32 cap) W' ∧ Buf W' W.heap.size l ∧ Below W.heap.size W W' ∧ W.heap.size < W'.heap.size := by
  obtain ⟨s, hs⟩ : ∃ s : ByteArray, s = ⟨l.toArray⟩ := ⟨_, rfl⟩
  have hs2 : s.size = 32 := by rw [hs]; exact hl
  have hsl : s.data.toList = l := by rw [hs]
  have h := run_bytes_of_string (P := Tryd.prog) W 9 44 5 s Tryd.underlying9 Tryd.underlying44 Tryd.underlying5
  rw [hs2] at h
  rw [← hs]
  refine ⟨_, _, h, ⟨bytesRow s (grownCap W 32 0 5), _, heap_alloc_new W _, ?_, ?_⟩, ((Below.refl _ W).alloc (Nat.le_refl _) _).drew, by show _ < (W.alloc _).heap.size; simp⟩
  · rw [hl]
    unfold bytesRow
    rw [Array.size_append, Array.size_map]
    have : s.data.size = s.size := rfl
    omega
  · intro j hj
    rw [hl] at hj
    unfold bytesRow
    have h1 : (Array.map (fun b : UInt8 => Value.int .u8 (b.toNat : Int)) s.data).size = s.size := by rw [Array.size_map]; rfl
    rw [Array.getElem?_append_left (by rw [h1, hs2]; exact hj), Array.getElem?_map]
    have h2 : s.data[j]? = some (s.data.toList.getD j 0) := by
      rw [List.getD_eq_getElem?_getD, ← Array.getElem?_toList, List.getElem?_eq_getElem (show j < s.data.toList.length from (show s.data.toList.length = 32 from hs2).symm ▸ hj)]
      rfl
    rw [h2, hsl]; rfl
theorem Buf.cell {W : World} {g : Nat} {l : List UInt8} (h : Buf W g l) (j : Nat) (hj : j < l.length) : W.cell? ⟨g, j, none⟩ = some (.int .u8 ((l.getD j 0).toNat : Int)) := by
  obtain ⟨row, z, hg, hz, hr⟩ := h
  rw [cell_of_row W g j row 5 _ hg]
  exact hr j hj
theorem Buf.free {W : World} {g : Nat} {l : List UInt8} (h : Buf W g l) (j : Nat) (hj : j < l.length) : W.frozen? ⟨g, j, none⟩ = false := by
  obtain ⟨row, z, hg, hz, hr⟩ := h
  unfold World.frozen?
  simp [hg]
  omega
theorem Buf.str {W : World} {g cap : Nat} {l : List UInt8} (h : Buf W g l) (hl : l.length = 32) : (Go.convert 44 9 (.slice (some ⟨g, 0, none⟩) 32 cap)).run Tryd.prog W = .ok (.string ⟨l.toArray⟩) W := by
  rw [← hl]
  refine run_convert_bytes_back (P := Tryd.prog) W 44 9 5 ⟨g, 0, none⟩ cap l Tryd.underlying44 Tryd.underlying5 Tryd.underlying9 (fun j hj => ?_)
  rw [addr_add, Nat.zero_add, h.cell j hj, List.getD_eq_getElem?_getD, List.getElem?_eq_getElem hj]
  rfl
theorem Buf.set {W : World} {g : Nat} {m : List UInt8} {b : UInt8} (h : Buf W g (m ++ [b])) (hm : m.length = 31) (c : UInt8) : Buf (W.setCell ⟨g, 31, none⟩ (.int .u8 (c.toNat : Int))) g (m ++ [c]) := by
  obtain ⟨row, z, hg, hz, hr⟩ := h
  refine ⟨row.setIfInBounds 31 (.int .u8 (c.toNat : Int)), z, (by rw [setCell_eq_setRow W g 31 row 5 (z, z + 1) _ hg]; exact setRow_heap W g row _ 5 (z, z + 1) hg), by simp at hz ⊢; omega, ?_⟩
  intro j hj
  have hj2 : j < (m ++ [b]).length := by simp at hj ⊢; omega
  have h31 := hr 31 (by simp [hm])
  have hsz := (Array.getElem?_eq_some_iff.1 h31).1
  rw [Array.getElem?_setIfInBounds]
  by_cases e : 31 = j
  · subst e
    rw [if_pos rfl, if_pos hsz]
    simp [List.getD_eq_getElem?_getD, List.getElem?_append_right, hm]
  · rw [if_neg e, hr j hj2]
    have hjm : j < m.length := by simp at hj; omega
    simp [List.getD_eq_getElem?_getD, List.getElem?_append_left hjm]
theorem Kt.cellOther {w0 w : World} {l : List (Nat × Array Value × TypeId)} (h : Kt w0 l w) (g j : Nat) (v : Value) (hw : w0.heap.size ≤ g) (hl : ∀ p ∈ l, p.1 ≠ g) : Kt w0 l (w.setCell ⟨g, j, none⟩ v) :=
  ⟨h.1.setCell (p := ⟨g, j, none⟩) hw _, fun p hp => (heap_setCell_other _ _ _ _ (hl p hp)).trans (h.2 p hp)⟩
theorem exec_convG {ρ : Operand → Value} {o : Oper} (s d : TypeId) (x : Operand) (ho : o.op = .convert s d x) (v : Value) (hx : ρ x = v) (u : Value) (w w2 : World) (h : (Go.convert s d v).run Tryd.prog w = .ok u w2) : (execOp ρ o).run Tryd.prog w = .ok (.value u) w2 := by
  subst hx
  unfold execOp
  simp [ho, h]
theorem exec_index44 {ρ : Operand → Value} {o : Oper} (x : Operand) (ho : o.op = .indexAddr 44 x (.const (.int .i64 31))) (hc : ρ (.const (.int .i64 31)) = .int .i64 31) (g cap : Nat) (hx : ρ x = .slice (some ⟨g, 0, none⟩) 32 cap) (w : World) :
    (execOp ρ o).run Tryd.prog w = .ok (.value (.pointer (some ⟨g, 31, none⟩))) w := by
  have hu := Tryd.underlying44
  have hz := Tryd.sizeOf5
  unfold execOp
  rw [ho]
  simp only [hx, hc]
  go_simp
theorem top_byte (n : Nat) (hn : n < 115792089237316195423570985008687907853269984665640564039457584007913129639936) : ∃ (m : List UInt8) (b : UInt8), bytesN n = m ++ [b] ∧ m.length = 31 ∧ n = leVal m + b.toNat * 256 ^ 31 := by
  have hl := bytesN_length n
  have hv := leVal_bytesN n hn
  have hne : bytesN n ≠ [] := by intro h; rw [h] at hl; cases hl
  refine ⟨(bytesN n).dropLast, (bytesN n).getLast hne, (List.dropLast_concat_getLast hne).symm, by rw [List.length_dropLast, hl], ?_⟩
  have h31 : (bytesN n).dropLast.length = 31 := by rw [List.length_dropLast, hl]
  have h := leVal_snoc (bytesN n).dropLast ((bytesN n).getLast hne)
  rw [List.dropLast_concat_getLast hne, hv, h31] at h
  exact h
theorem bytes_join (m : List UInt8) (b : UInt8) (hm : m.length = 31) : bytesN (leVal m + b.toNat * 256 ^ 31) = m ++ [b] := by
  have h := leVal_snoc m b
  rw [hm] at h
  rw [← h]
  refine leVal_inj _ _ (by rw [bytesN_length]; simp [hm]) (leVal_bytesN _ ?_)
  have h2 := leVal_lt (m ++ [b])
  rw [List.length_append, hm] at h2
  exact h2
theorem text_top (s : ByteArray) (hs : s.size = 32) : ∃ (m : List UInt8) (b : UInt8), s = ⟨(m ++ [b]).toArray⟩ ∧ m.length = 31 ∧ leVal s.data.toList = leVal m + b.toNat * 256 ^ 31 := by
  have hl : s.data.toList.length = 32 := hs
  have hne : s.data.toList ≠ [] := by intro h; rw [h] at hl; cases hl
  have h31 : s.data.toList.dropLast.length = 31 := by rw [List.length_dropLast, hl]
  have h := leVal_snoc s.data.toList.dropLast (s.data.toList.getLast hne)
  rw [List.dropLast_concat_getLast hne, h31] at h
  refine ⟨s.data.toList.dropLast, s.data.toList.getLast hne, ?_, h31, h⟩
  rw [List.dropLast_concat_getLast hne]
theorem leVal_31 (m : List UInt8) (hm : m.length = 31) : leVal m < 256 ^ 31 := by
  have h := leVal_lt m
  rw [hm] at h
  exact h
theorem or_top7 : ∀ y : Fin 128, bits .or .u8 (y.1 : Int) 128 = ((y.1 + 128 : Nat) : Int) := by decide +kernel
theorem andnot_top7 : ∀ y : Fin 256, bits .andNot .u8 (y.1 : Int) 128 = ((y.1 % 128 : Nat) : Int) := by decide +kernel
theorem or_topq7 : ∀ (y : Fin 128) (q : Fin 2), bits .or .u8 (y.1 : Int) ((q.1 * 128 : Nat) : Int) = ((y.1 + q.1 * 128 : Nat) : Int) := by decide +kernel
theorem xor_top7 : ∀ y : Fin 256, bits .xor .u8 (y.1 : Int) 128 = (((y.1 + 128) % 256 : Nat) : Int) := by decide +kernel
theorem exec_or128 {ρ : Operand → Value} {o : Oper} (x : Operand) (ho : o.op = .binOp .or 5 x (.const (.int .u8 128)) 5) (hc : ρ (.const (.int .u8 128)) = .int .u8 128) (b c : UInt8) (hb : bits .or .u8 (b.toNat : Int) 128 = (c.toNat : Int)) (hx : ρ x = .int .u8 (b.toNat : Int)) (w : World) :
    (execOp ρ o).run Tryd.prog w = .ok (.value (.int .u8 (c.toNat : Int))) w := by
  unfold execOp
  rw [ho]
  simp only [hx, hc]
  go_simp
theorem exec_andNot128 {ρ : Operand → Value} {o : Oper} (x : Operand) (ho : o.op = .binOp .andNot 5 x (.const (.int .u8 128)) 5) (hc : ρ (.const (.int .u8 128)) = .int .u8 128) (b c : UInt8) (hb : bits .andNot .u8 (b.toNat : Int) 128 = (c.toNat : Int)) (hx : ρ x = .int .u8 (b.toNat : Int)) (w : World) :
    (execOp ρ o).run Tryd.prog w = .ok (.value (.int .u8 (c.toNat : Int))) w := by
  unfold execOp
  rw [ho]
  simp only [hx, hc]
  go_simp
theorem exec_xor128 {ρ : Operand → Value} {o : Oper} (x : Operand) (ho : o.op = .binOp .xor 5 x (.const (.int .u8 128)) 5) (hc : ρ (.const (.int .u8 128)) = .int .u8 128) (b c : UInt8) (hb : bits .xor .u8 (b.toNat : Int) 128 = (c.toNat : Int)) (hx : ρ x = .int .u8 (b.toNat : Int)) (w : World) :
    (execOp ρ o).run Tryd.prog w = .ok (.value (.int .u8 (c.toNat : Int))) w := by
  unfold execOp
  rw [ho]
  simp only [hx, hc]
  go_simp
theorem Buf.cell31 {W : World} {g : Nat} {m : List UInt8} {b : UInt8} (h : Buf W g (m ++ [b])) (hm : m.length = 31) : W.cell? ⟨g, 31, none⟩ = some (.int .u8 (b.toNat : Int)) := by
  have h1 := h.cell 31 (by simp [hm])
  rwa [show (m ++ [b]).getD 31 0 = b by simp [List.getD_eq_getElem?_getD, List.getElem?_append_right, hm]] at h1
theorem len31 {m : List UInt8} (b : UInt8) (hm : m.length = 31) : (m ++ [b]).length = 32 := by simp [hm]
theorem size5 : (Tryd.prog.info? 5).map (·.size) = some 1 := by kernel_rfl
theorem exec_store31 {ρ : Operand → Value} {o : Oper} (w : World) (x y : Operand) (ho : o.op = .store 5 x y) (g : Nat) (hx : ρ x = .pointer (some ⟨g, 31, none⟩)) (c : UInt8) (hy : ρ y = .int .u8 (c.toNat : Int)) {m : List UInt8} {b : UInt8} (h : Buf w g (m ++ [b])) (hm : m.length = 31) :
    (execOp ρ o).run Tryd.prog w = .ok .skip (w.setCell ⟨g, 31, none⟩ (.int .u8 (c.toNat : Int))) :=
  exec_store_one w 5 x y ho ⟨g, 31, none⟩ hx _ hy rfl rfl _ (h.cell31 hm) (h.free 31 (by simp [hm])) size5
theorem or_b (b : UInt8) (hb : b.toNat < 128) : ∃ c : UInt8, bits .or .u8 (b.toNat : Int) 128 = (c.toNat : Int) ∧ c.toNat = b.toNat + 128 := by
  refine ⟨UInt8.ofNat (b.toNat + 128), ?_, ?_⟩
  · rw [UInt8.toNat_ofNat', Nat.mod_eq_of_lt (by omega)]
    exact or_top7 ⟨b.toNat, hb⟩
  · rw [UInt8.toNat_ofNat', Nat.mod_eq_of_lt (by omega)]
theorem andnot_b (b : UInt8) : ∃ c : UInt8, bits .andNot .u8 (b.toNat : Int) 128 = (c.toNat : Int) ∧ c.toNat = b.toNat % 128 := by
  refine ⟨UInt8.ofNat (b.toNat % 128), ?_, ?_⟩
  · rw [UInt8.toNat_ofNat', Nat.mod_eq_of_lt (by omega)]
    exact andnot_top7 ⟨b.toNat, b.toNat_lt⟩
  · rw [UInt8.toNat_ofNat', Nat.mod_eq_of_lt (by omega)]
theorem xor_b (b : UInt8) : ∃ c : UInt8, bits .xor .u8 (b.toNat : Int) 128 = (c.toNat : Int) ∧ c.toNat = (b.toNat + 128) % 256 := by
  refine ⟨UInt8.ofNat (b.toNat + 128), ?_, ?_⟩
  · rw [UInt8.toNat_ofNat']
    exact xor_top7 ⟨b.toNat, b.toNat_lt⟩
  · rw [UInt8.toNat_ofNat']
/-- The bytes of a point's number, of its Y's bytes. -/
theorem enc_even {x y : Nat} (h : x % 2 = 0) : bytesN (encP (x, y)) = bytesN y := by
  unfold encP
  rw [h, Nat.mul_zero, Nat.add_zero]
theorem enc_odd {x y : Nat} {m : List UInt8} {b c : UInt8} (h : x % 2 = 1) (hm : m.length = 31) (hy : y = leVal m + b.toNat * 256 ^ 31) (hc : c.toNat = b.toNat + 128) : bytesN (encP (x, y)) = m ++ [c] := by
  rw [← bytes_join m c hm]
  unfold encP
  rw [h, hc, hy, Nat.add_mul, show hb = 128 * 256 ^ 31 by decide, Nat.mul_one, Nat.add_assoc]
theorem top_small {y : Nat} (hy : y < pp) {m : List UInt8} {b : UInt8} (h : y = leVal m + b.toNat * 256 ^ 31) : b.toNat < 128 := by
  have h1 := Nat.lt_trans hy pp_hb
  rw [show hb = 128 * 256 ^ 31 by decide] at h1
  have h2 : b.toNat * 256 ^ 31 < 128 * 256 ^ 31 := by omega
  exact Nat.lt_of_mul_lt_mul_right h2
end Go.Proofs.YtgbliacncahooaaDoor
/- Operations under guards in a region that does not draw; numbers with a mark, said of whole rows. No condition but what each names. -/
namespace Go.Proofs.YtgbliacncahooaaDoor
open Go.RowKit Go.Shelf
set_option linter.unusedVariables false
set_option linter.unusedSimpArgs false
section
variable {P : Program} {ops : Array Oper} {rest : List Oper} {o : Oper} {a : Act} {w w2 : World} {Q : Exit → Act → World → Prop}
theorem wpList_skipG (h : wpList P ops Q rest (a.put o.dst undef) w) (hw : Region.wanted o (yielded ops a.tmps) = false) : wpList P ops Q (o :: rest) a w :=
  wpList_step fun K hK => by
    rw [if_neg (by rw [hw]; decide)]
    exact hK _ _ h
theorem wpList_runH (v : Value) (hrun : (execOp a.eval o).run P w = .ok (.value v) w2) (h : wpList P ops Q rest (a.put o.dst v) w2) (hw : Region.wanted o (yielded ops a.tmps) = true) : wpList P ops Q (o :: rest) a w :=
  wpList_step fun K hK => by
    rw [if_pos hw]
    unfold Oper.wp
    rw [hrun]
    exact hK _ _ h
theorem wpList_callH (hw : Region.wanted o (yielded ops a.tmps) = true) (g : FuncId) (args : Array Operand) (tys : Array TypeId) (ho : o.op = .call { callee := .value (.func g), args := args, argTypes := tys })
    (avs : Array Value) (eg : ∀ args w, (callFunc g args).run P w = .ok (.enter g args) w) {R : Ending → World → Prop} (hc : Calls P g avs w R)
    (hK : ∀ v w', R (.returned v) w' → wpList P ops Q rest (a.put o.dst v) w') (has : args.map a.eval = avs := by simp [Act.eval]) (hnp : ∀ c w', ¬ R (.panicked c) w' := by exact fun c w' h => by cases h.1) (hno : ∀ w', ¬ R .outgrown w' := by exact fun w' h => by cases h.1) : wpList P ops Q (o :: rest) a w :=
  wpList_step fun K hK2 => by
    rw [if_pos hw]
    have hev : a.eval (.func g) = .func (.func g) #[] #[] := rfl
    have hres : (resolve a.eval { callee := .value (.func g), args := args, argTypes := tys } o.type).run P w = .ok { target := .fn (.func g) #[], args := avs } w := by
      simp [resolve, hev, has, Deferred.ofValue]
    have hx : (execOp a.eval o).run P w = .ok (.enter g avs) w := by
      unfold execOp
      simp only [ho, Sem.run_bind, hres, Result.andThen_ok, invoke]
      simp [eg]
    unfold Oper.wp
    rw [hx]
    refine hc.mono ?_
    intro e w' hr
    cases e with
    | returned v => exact hK2 _ _ (hK v w' hr)
    | panicked c => exact (hnp c w' hr).elim
    | outgrown => exact (hno w' hr).elim
end
theorem got_of {A : Array Value} (hA : IsNum A) (b : Bool) : IsGot (A ++ #[.bool b]) := by
  obtain ⟨f, rfl⟩ := hA
  exact ⟨f, b, by simp [gotV]⟩
theorem got_b {A : Array Value} (hA : IsNum A) (b : Bool) : (A ++ #[.bool b])[4]? = some (.bool b) := by
  rw [Array.getElem?_append_right (by rw [hA.size]; exact Nat.le_refl 4), hA.size]
  rfl
theorem rroot_got (a : Nat) (ha : a < 115792089237316195423570985008687907853269984665640564039457584007913129639936) (w : World) :
    Calls Tryd.prog 35 #[.agg (num a)] w fun e w' => e = .returned (.agg (num (rootF a).1 ++ #[.bool (rootF a).2])) ∧ Below w.heap.size w w' := by
  have h := rroot_any a ha w
  rw [show gotV (dig (rootF a).1) (rootF a).2 = num (rootF a).1 ++ #[.bool (rootF a).2] by simp [gotV, num]] at h
  exact h
theorem addF_comm1 (a b : Nat) : addF a b = addF b a := by unfold addF; rw [Nat.add_comm]
theorem exec_neq32 {ρ : Operand → Value} {o : Oper} (x : Operand) (ho : o.op = .binOp .neq 3 x (.const (.int .i64 32)) 3) (hc : ρ (.const (.int .i64 32)) = .int .i64 32) (n : Nat) (b : Bool) (hb : b = !((n : Int) == 32)) (hx : ρ x = .int .i64 (n : Int)) (w : World) :
    (execOp ρ o).run Tryd.prog w = .ok (.value (.bool b)) w := by
  subst hb
  unfold execOp
  rw [ho]
  simp only [hx, hc]
  go_simp
  rfl
theorem exec_geq128 {ρ : Operand → Value} {o : Oper} (x : Operand) (ho : o.op = .binOp .geq 5 x (.const (.int .u8 128)) 5) (hc : ρ (.const (.int .u8 128)) = .int .u8 128) (n : Nat) (b : Bool) (hb : decide ((128 : Int) ≤ (n : Int)) = b) (hx : ρ x = .int .u8 (n : Int)) (w : World) :
    (execOp ρ o).run Tryd.prog w = .ok (.value (.bool b)) w := by
  unfold execOp
  rw [ho]
  simp only [hx, hc]
  go_simp
theorem exec_index31 {ρ : Operand → Value} {o : Oper} (x : Operand) (ho : o.op = .index 9 x (.const (.int .i64 31))) (hc : ρ (.const (.int .i64 31)) = .int .i64 31) (m : List UInt8) (b : UInt8) (hm : m.length = 31) (hx : ρ x = .string ⟨(m ++ [b]).toArray⟩) (w : World) :
    (execOp ρ o).run Tryd.prog w = .ok (.value (.int .u8 (b.toNat : Int))) w := by
  obtain ⟨s, hs⟩ : ∃ s : ByteArray, s = ⟨(m ++ [b]).toArray⟩ := ⟨_, rfl⟩
  have hsz : s.size = 32 := by rw [hs]; exact len31 b hm
  have hb : s[31].toNat = b.toNat := by
    subst hs
    show ((m ++ [b]).toArray[31]'(by simp [hm])).toNat = b.toNat
    simp [List.getElem_append_right, hm]
  rw [← hs] at hx
  exact exec_index_str x (.const (.int .i64 31)) ho s 31 (by omega) hx hc b.toNat hb.symm w
end Go.Proofs.YtgbliacncahooaaDoor
