/- Single operations of the walks; numbers with a mark in memory; bytes put side by side. No condition but what each names. -/
import Derived.Test.YtfcnfcolhahghaaDoorOrderMath
import Derived.Test.YtfcnfcolhahghaaDoorByt
namespace Go.Proofs.YtfcnfcolhahghaaDoor
open Go.RowKit Go.Shelf
set_option linter.unusedVariables false
set_option linter.unusedSimpArgs false
theorem eq_num (a b : Nat) (ha : a < 115792089237316195423570985008687907853269984665640564039457584007913129639936) (hb : b < 115792089237316195423570985008687907853269984665640564039457584007913129639936) (v : Bool) (hv : decide (a = b) = v) (w : World) : (Op.equalIn 10000 24 (.agg (num a)) (.agg (num b))).run Tryd.prog w = .ok v w := by
  rw [num_lit, num_lit, eq24]
  congr 1
  rw [← hv]
  by_cases e : a = b
  · subst e; simp
  · rw [decide_eq_false e]
    apply Bool.eq_false_iff.2
    intro hc
    simp at hc
    exact e (num_inj ha hb hc.1 hc.2.1 hc.2.2.1 hc.2.2.2)
theorem exec_neqv {ρ : Operand → Value} {o : Oper} (x y : Operand) (ho : o.op = .binOp .neq 24 x y 24) (a b : Nat) (ha : a < 115792089237316195423570985008687907853269984665640564039457584007913129639936) (hb : b < 115792089237316195423570985008687907853269984665640564039457584007913129639936) (hx : ρ x = .agg (num a)) (hy : ρ y = .agg (num b)) (v : Bool) (hv : decide (a = b) = !v) (w : World) :
    (execOp ρ o).run Tryd.prog w = .ok (.value (.bool v)) w := by
  have h := eq_num a b ha hb (!v) hv w
  have hvv : (!(!v)) = v := by simp
  unfold execOp
  rw [ho]
  simp only [hx, hy]
  rw [num_lit, num_lit] at *
  go_simp
theorem Kn.setw {w0 w : World} {l m : List (Nat × Array Value)} (h : Kn w0 l w) (g : Nat) (f : Nat → Nat) (j v : Nat) (hg : Row w g 24 .u64 4 f) (hw : w0.heap.size ≤ g) (hm : ∀ p ∈ m, p = (g, (rowOf .u64 4 (upd f j v)).toArray) ∨ (p ∈ l ∧ p.1 ≠ g)) : Kn w0 m (w.setCell ⟨g, j, none⟩ (.int .u64 (v : Int))) :=
  ⟨h.1.setCell (p := ⟨g, j, none⟩) hw _, fun p hp => by
    rcases hm p hp with rfl | ⟨h1, h2⟩
    · exact hg.set j v
    · exact (heap_setCell_other _ _ _ _ h2).trans (h.2 p h1)⟩
theorem exec_quo8 {ρ : Operand → Value} {o : Oper} (x : Operand) (ho : o.op = .binOp .quo 3 x (.const (.int .i64 8)) 3) (hc : ρ (.const (.int .i64 8)) = .int .i64 8) (i j : Nat) (hi : i < 1000) (hx : ρ x = .int .i64 (i : Int)) (hj : j = i / 8) (w : World) : (execOp ρ o).run Tryd.prog w = .ok (.value (.int .i64 (j : Int))) w := by
  have hq : (i : Int).tdiv 8 = (j : Int) := by rw [Int.tdiv_eq_ediv_of_nonneg (by omega)]; omega
  have hq2 : (i : Int) / 8 = (j : Int) := by omega
  have hw : IntKind.i64.wrap (j : Int) = (j : Int) := IntWalk.i64_in _ (by omega)
  clear hj
  unfold execOp
  rw [ho]
  simp only [hx, hc]
  go_simp
theorem exec_rem8 {ρ : Operand → Value} {o : Oper} (x : Operand) (ho : o.op = .binOp .rem 3 x (.const (.int .i64 8)) 3) (hc : ρ (.const (.int .i64 8)) = .int .i64 8) (i j : Nat) (hi : i < 1000) (hx : ρ x = .int .i64 (i : Int)) (hj : j = i % 8) (w : World) : (execOp ρ o).run Tryd.prog w = .ok (.value (.int .i64 (j : Int))) w := by
  have hq : (i : Int).tmod 8 = (j : Int) := by rw [Int.tmod_eq_emod_of_nonneg (by omega)]; omega
  have hq2 : (i : Int) % 8 = (j : Int) := by omega
  have hw : IntKind.i64.wrap (j : Int) = (j : Int) := IntWalk.i64_in _ (by omega)
  clear hj
  unfold execOp
  rw [ho]
  simp only [hx, hc]
  go_simp
theorem exec_mul8 {ρ : Operand → Value} {o : Oper} (x : Operand) (ho : o.op = .binOp .mul 3 x (.const (.int .i64 8)) 3) (hc : ρ (.const (.int .i64 8)) = .int .i64 8) (i j : Nat) (hi : i < 8) (hx : ρ x = .int .i64 (i : Int)) (hj : j = 8 * i) (w : World) : (execOp ρ o).run Tryd.prog w = .ok (.value (.int .i64 (j : Int))) w := by
  have hq : (i : Int) * 8 = (j : Int) := by omega
  have hw : IntKind.i64.wrap (j : Int) = (j : Int) := IntWalk.i64_in _ (by omega)
  clear hj
  unfold execOp
  rw [ho]
  simp only [hx, hc]
  go_simp
theorem exec_shl {ρ : Operand → Value} {o : Oper} (x y : Operand) (ho : o.op = .binOp .shl 22 x y 3) (c s r : Nat) (hs : s < 64) (hx : ρ x = .int .u64 (c : Int)) (hy : ρ y = .int .i64 (s : Int)) (hr : r = c * 2 ^ s) (hl : r < 18446744073709551616) (w : World) : (execOp ρ o).run Tryd.prog w = .ok (.value (.int .u64 (r : Int))) w := by
  have hq : (c : Int) * 2 ^ s = (r : Int) := by rw [hr, Int.natCast_mul, Int.natCast_pow]; rfl
  have hw : IntKind.u64.wrap (r : Int) = (r : Int) := wrap_id hl
  have hsi : (s : Int) < 64 := by omega
  clear hr
  unfold execOp
  rw [ho]
  simp only [hx, hy]
  go_simp
theorem exec_or {ρ : Operand → Value} {o : Oper} (x y : Operand) (ho : o.op = .binOp .or 22 x y 22) (a c s r : Nat) (hx : ρ x = .int .u64 (a : Int)) (hy : ρ y = .int .u64 ((c * 2 ^ s : Nat) : Int)) (ha : a < 2 ^ s) (hr : r = a + c * 2 ^ s) (hl : r < 18446744073709551616) (w : World) : (execOp ρ o).run Tryd.prog w = .ok (.value (.int .u64 (r : Int))) w := by
  have hb := bits_or_u64_nat a (c * 2 ^ s) (by omega) (by omega)
  have ho2 : a ||| c * 2 ^ s = r := by rw [Nat.or_comm, or_join s c a ha, hr]; omega
  rw [ho2] at hb
  clear hr ho2
  generalize c * 2 ^ s = z at *
  unfold execOp
  rw [ho]
  simp only [hx, hy]
  go_simp
theorem exec_conv64 {ρ : Operand → Value} {o : Oper} (x : Operand) (ho : o.op = .convert 5 22 x) (c : Nat) (hc : c < 256) (hx : ρ x = .int .u8 (c : Int)) (w : World) : (execOp ρ o).run Tryd.prog w = .ok (.value (.int .u64 (c : Int))) w := by
  have hw : IntKind.u64.wrap (c : Int) = (c : Int) := wrap_id (by omega)
  unfold execOp
  rw [ho]
  simp only [hx]
  go_simp
theorem exec_index_str {ρ : Operand → Value} {o : Oper} (x y : Operand) (ho : o.op = .index 9 x y) (s : ByteArray) (i : Nat) (hi : i < s.size) (hx : ρ x = .string s) (hy : ρ y = .int .i64 (i : Int)) (c : Nat) (hc : c = s[i].toNat) (w : World) : (execOp ρ o).run Tryd.prog w = .ok (.value (.int .u8 (c : Int))) w := by
  subst hc
  unfold execOp
  rw [ho]
  simp only [hx, hy]
  go_simp
theorem exec_notb {ρ : Operand → Value} {o : Oper} (x : Operand) (ho : o.op = .unOp .not 4 x) (b c : Bool) (hx : ρ x = .bool b) (hc : c = !b) (w : World) :
    (execOp ρ o).run Tryd.prog w = .ok (.value (.bool c)) w := by
  subst hc
  unfold execOp
  rw [ho]
  simp only [hx]
  go_simp
theorem mod64_bit (x s : Nat) (hs : s < 64) : x % 18446744073709551616 / 2 ^ s % 2 = x / 2 ^ s % 2 := by
  rw [← Nat.toNat_testBit, ← Nat.toNat_testBit, show (18446744073709551616 : Nat) = 2 ^ 64 from rfl, Nat.testBit_mod_two_pow, decide_eq_true hs, Bool.true_and]
theorem dig_bit (n q : Nat) (hq : q < 256) : dig n (q / 64) / 2 ^ (q % 64) % 2 = n / 2 ^ q % 2 := by
  have hs : q % 64 < 64 := Nat.mod_lt _ (by decide)
  obtain ⟨s, hs2⟩ : ∃ s, s = q % 64 := ⟨_, rfl⟩
  rw [← hs2] at hs ⊢
  rcases (show q / 64 = 0 ∨ q / 64 = 1 ∨ q / 64 = 2 ∨ q / 64 = 3 by omega) with h | h | h | h <;> rw [h]
  · rw [dig_0, mod64_bit _ _ hs, show q = s by omega]
  · rw [dig_1, mod64_bit _ _ hs, Nat.div_div_eq_div_mul, show (18446744073709551616 : Nat) = 2 ^ 64 from rfl, ← Nat.pow_add, show q = 64 + s by omega]
  · rw [dig_2, mod64_bit _ _ hs, Nat.div_div_eq_div_mul, show (340282366920938463463374607431768211456 : Nat) = 2 ^ 128 from rfl, ← Nat.pow_add, show q = 128 + s by omega]
  · rw [dig_3, mod64_bit _ _ hs, Nat.div_div_eq_div_mul, show (6277101735386680763835789423207666416102355444464034512896 : Nat) = 2 ^ 192 from rfl, ← Nat.pow_add, show q = 192 + s by omega]
theorem exec_quo64 {ρ : Operand → Value} {o : Oper} (x : Operand) (ho : o.op = .binOp .quo 3 x (.const (.int .i64 64)) 3) (hc : ρ (.const (.int .i64 64)) = .int .i64 64) (i j : Nat) (hi : i < 1000) (hx : ρ x = .int .i64 (i : Int)) (hj : j = i / 64) (w : World) : (execOp ρ o).run Tryd.prog w = .ok (.value (.int .i64 (j : Int))) w := by
  have hq : (i : Int).tdiv 64 = (j : Int) := by rw [Int.tdiv_eq_ediv_of_nonneg (by omega)]; omega
  have hq2 : (i : Int) / 64 = (j : Int) := by omega
  have hw : IntKind.i64.wrap (j : Int) = (j : Int) := IntWalk.i64_in _ (by omega)
  clear hj
  unfold execOp
  rw [ho]
  simp only [hx, hc]
  go_simp
theorem exec_rem64 {ρ : Operand → Value} {o : Oper} (x : Operand) (ho : o.op = .binOp .rem 3 x (.const (.int .i64 64)) 3) (hc : ρ (.const (.int .i64 64)) = .int .i64 64) (i j : Nat) (hi : i < 1000) (hx : ρ x = .int .i64 (i : Int)) (hj : j = i % 64) (w : World) : (execOp ρ o).run Tryd.prog w = .ok (.value (.int .i64 (j : Int))) w := by
  have hq : (i : Int).tmod 64 = (j : Int) := by rw [Int.tmod_eq_emod_of_nonneg (by omega)]; omega
  have hq2 : (i : Int) % 64 = (j : Int) := by omega
  have hw : IntKind.i64.wrap (j : Int) = (j : Int) := IntWalk.i64_in _ (by omega)
  clear hj
  unfold execOp
  rw [ho]
  simp only [hx, hc]
  go_simp
theorem and_one (d r : Nat) (hd : d < 18446744073709551616) (hr : r = d % 2) : bits .and .u64 (d : Int) 1 = (r : Int) := by
  have hb := bits_and_u64_nat d 1 hd (by decide)
  rw [show d &&& 1 = r by rw [Nat.and_one_is_mod, hr]] at hb
  exact hb
/-- A number with whether it is one, in memory. -/
def gotV (f : Nat → Nat) (b : Bool) : Array Value := (rowOf .u64 4 f ++ [Value.bool b]).toArray
def IsGot (A : Array Value) : Prop := ∃ f b, A = gotV f b
theorem IsGot.size {A : Array Value} (h : IsGot A) : A.size = 5 := by obtain ⟨f, b, rfl⟩ := h; simp [gotV, rowOf_length]
theorem gotL (f : Nat → Nat) (b : Bool) : (rowOf .u64 4 f ++ [Value.bool b]).length = 5 := by simp [rowOf_length]
theorem size29 (f : Nat → Nat) (b : Bool) : (Tryd.prog.info? 29).map (·.size) = some (rowOf .u64 4 f ++ [Value.bool b]).length := by rw [gotL]; kernel_rfl
theorem gotOne (f : Nat → Nat) (b : Bool) : ∀ v ∈ rowOf .u64 4 f ++ [Value.bool b], v.oneCell' = true := by
  intro v hv
  rcases List.mem_append.1 hv with h | h
  · exact rowOf_one _ _ _ v h
  · simp at h; subst h; rfl
theorem zero29 (w : World) : (zeroValue 29).run Tryd.prog w = .ok (.agg (gotV (fun _ => 0) false)) w := by kernel_rfl
theorem load29 {W : World} {g : Nat} {A : Array Value} (hA : IsGot A) {t : TypeId} (hg : W.heap[g]? = some (.cells A t (0, 0))) : (loadVar 29 ⟨g, 0, none⟩).run Tryd.prog W = .ok (.agg A) W := by
  obtain ⟨f, b, rfl⟩ := hA
  exact run_loadVar_seg W 29 g 0 (rowOf .u64 4 f ++ [Value.bool b]) _ (fun j v hv => by rw [Nat.zero_add, cell_of_row W g j _ t (0, 0) hg, gotV, List.getElem?_toArray, hv]) Tryd.underlying29 rfl (size29 f b)
theorem exec_store29 {ρ : Operand → Value} {o : Oper} (w : World) (x y : Operand) (ho : o.op = .store 29 x y) (g : Nat) (hx : ρ x = .pointer (some ⟨g, 0, none⟩)) (A : Array Value) (hA : IsGot A) (hy : ρ y = .agg A) (cur : Array Value) (t : TypeId)
    (hg : w.heap[g]? = some (.cells cur t (0, 0))) (h8 : cur.size = 5) : (execOp ρ o).run Tryd.prog w = .ok .skip (w.setRow g A) := by
  obtain ⟨f, b, rfl⟩ := hA
  have h := exec_store_seg (P := Tryd.prog) (ρ := ρ) (o := o) w 29 x y ho g 0 hx (rowOf .u64 4 f ++ [Value.bool b]) hy cur t hg (by rw [gotL]; omega) (gotOne f b) (size29 f b)
  rwa [splice_all _ _ (by rw [gotL]; exact h8)] at h
theorem build29_0 (w : World) : (Instr.build 29 #[]).run Tryd.prog w = .ok (.agg (gotV (fun _ => 0) false)) w := by kernel_rfl
theorem build29_lit (a b c d : Value) (e : Bool) (w : World) : (Instr.build 29 #[(0, .agg #[a, b, c, d]), (1, .bool e)]).run Tryd.prog w = .ok (.agg #[a, b, c, d, .bool e]) w := by kernel_rfl
theorem build29 (f : Nat → Nat) (b : Bool) (w : World) : (Instr.build 29 #[(0, .agg (rowOf .u64 4 f).toArray), (1, .bool b)]).run Tryd.prog w = .ok (.agg (gotV f b)) w := build29_lit _ _ _ _ b w
theorem exec_build2 {ρ : Operand → Value} {o : Oper} (w : World) (t : TypeId) (k k2 : Nat) (x x2 : Operand) (ho : o.op = .build t #[(k, x), (k2, x2)]) (u u2 : Value) (hx : ρ x = u) (hx2 : ρ x2 = u2) (v : Value)
    (hrun : (Instr.build t #[(k, u), (k2, u2)]).run Tryd.prog w = .ok v w) : (execOp ρ o).run Tryd.prog w = .ok (.value v) w := by
  subst hx hx2
  unfold execOp
  simp [ho, hrun]
theorem exec_store24k {ρ : Operand → Value} {o : Oper} (w : World) (x y : Operand) (ho : o.op = .store 24 x y) (g : Nat) (hx : ρ x = .pointer (some ⟨g, 0, none⟩)) (A : Array Value) (hA : IsNum A) (hy : ρ y = .agg A) (cur : Array Value) (t : TypeId)
    (hg : w.heap[g]? = some (.cells cur t (0, 0))) (h4 : cur.size = 4) : (execOp ρ o).run Tryd.prog w = .ok .skip (w.setRow g A) := exec_store24 w x y ho g hx A hA hy cur t hg h4
theorem exec_build0g {ρ : Operand → Value} {o : Oper} {t : TypeId} (ho : o.op = .build t #[]) (v : Value) {w : World} (hrun : (Instr.build t #[]).run Tryd.prog w = .ok v w) (w2 : World) (hw : w2 = w := by rfl) : (execOp ρ o).run Tryd.prog w2 = .ok (.value v) w2 := by
  subst hw
  unfold execOp
  simp [ho, hrun]
theorem exec_len9 {ρ : Operand → Value} {o : Oper} (x : Operand) (ho : o.op = .call { callee := .builtin .len, args := #[x], argTypes := #[9] }) (s : ByteArray) (i : Nat) (hi : s.size = i) (hx : ρ x = .string s) (w : World) : (execOp ρ o).run Tryd.prog w = .ok (.value (.int .i64 (i : Int))) w := by
  subst hi
  unfold execOp
  simp [ho, hx, go_sem]
theorem exec_cat {ρ : Operand → Value} {o : Oper} (x y : Operand) (ho : o.op = .binOp .add 9 x y 9) (S T : ByteArray) (hS : S.size ≤ 1000000) (hT : T.size ≤ 1000000) (hx : ρ x = .string S) (hy : ρ y = .string T) (w : World) : (execOp ρ o).run Tryd.prog w = .ok (.value (.string (S ++ T))) w := by
  have hu := Tryd.underlying9
  have hst : S.size + T.size ≤ 9223372036854775807 := by omega
  unfold execOp
  simp only [ho, hx, hy]
  go_simp
theorem exec_catv {ρ : Operand → Value} {o : Oper} (x y : Operand) (ho : o.op = .binOp .add 9 x y 9) (S T V : ByteArray) (hS : S.size ≤ 1000000) (hT : T.size ≤ 1000000) (hV : S ++ T = V) (hx : ρ x = .string S) (hy : ρ y = .string T) (w : World) : (execOp ρ o).run Tryd.prog w = .ok (.value (.string V)) w := by
  subst hV
  exact exec_cat x y ho S T hS hT hx hy w
def leTo (N i : Nat) : List UInt8 := leW (dig N) ((List.finRange 4).take i)
theorem leTo_length (N i : Nat) (h : i ≤ 4) : (leTo N i).length = 8 * i := by
  unfold leTo
  rw [leW_length, List.length_take, List.length_finRange]
  omega
theorem leTo_step (N i : Nat) (h : i < 4) : leTo N i ++ le8 (dig N i) = leTo N (i + 1) := by
  unfold leTo
  rw [List.take_succ_eq_append_getElem (by rw [List.length_finRange]; exact h), leW_snoc]
  simp
theorem leTo_all (N : Nat) : leTo N 4 = bytesN N := rfl
theorem cat_list (l m : List UInt8) : (⟨l.toArray⟩ : ByteArray) ++ ⟨m.toArray⟩ = ⟨(l ++ m).toArray⟩ := by
  apply ByteArray.ext
  simp
theorem leVal_inj : ∀ l m : List UInt8, l.length = m.length → leVal l = leVal m → l = m
  | [], [], _, _ => rfl
  | [], _ :: _, h, _ => by simp at h
  | _ :: _, [], h, _ => by simp at h
  | x :: l, y :: m, h, e => by
    have hx := x.toNat_lt
    have hy := y.toNat_lt
    simp only [leVal] at e
    have h1 : x.toNat = y.toNat := by omega
    have h2 : leVal l = leVal m := by omega
    rw [UInt8.toNat_inj.1 h1, leVal_inj l m (by simpa using h) h2]
end Go.Proofs.YtfcnfcolhahghaaDoor
