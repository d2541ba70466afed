/- node of the document: the bytes of a node and of all below it. Its condition: lengths that fit. -/
import Derived.Test.YtglipljilcdboaaU21
import Derived.Test.YtglipljilcdboaaU22
namespace Go.Proofs.Ytglipljilcdboaa
open Go.RowKit Go.Shelf
set_option linter.unusedVariables false
set_option linter.unusedSimpArgs false
/-- A block of the call's own that holds a row. -/
def Bx (w : World) (g : Nat) (D : Array Value) (t : TypeId) (W : World) : Prop := Below w.heap.size w W ∧ W.heap[g]? = some (.cells D t (0, 0))
theorem Bx.below {w W W2 : World} {g : Nat} {D : Array Value} {t : TypeId} (h : Bx w g D t W) (hb : Below W.heap.size W W2) : Bx w g D t W2 :=
  ⟨h.1.trans (hb.mono h.1.size), (hb.block g (Array.getElem?_eq_some_iff.1 h.2).1).trans h.2⟩
theorem Bx.alloc {w W : World} {g : Nat} {D : Array Value} {t : TypeId} (h : Bx w g D t W) (o : Obj) : Bx w g D t (W.alloc o) := h.below ((Below.refl _ W).alloc (Nat.le_refl _) o)
theorem Bx.drewN {w W : World} {g : Nat} {D : Array Value} {t : TypeId} (h : Bx w g D t W) (n : Nat) : Bx w g D t (W.drewN n) := h.below (Below.drewN (Below.refl _ W) n)
theorem Bx.cell {w W : World} {g : Nat} {D : Array Value} {t : TypeId} (h : Bx w g D t W) (j : Nat) (v : Value) (hv : D[j]? = some v) : W.cell? ⟨g, j, none⟩ = some v := (cell_of_row W g j D t (0, 0) h.2).trans hv
theorem bs1 (a : ByteArray) (w : World) : (Instr.buildSlice 34 1 #[(0, .string a)]).run Try.prog w = .ok (.slice (some ⟨w.heap.size, 0, none⟩) 1 1) (w.alloc (.cells #[.string a] 9)) := by kernel_rfl
theorem bs2 (a b : ByteArray) (w : World) : (Instr.buildSlice 34 2 #[(0, .string a), (1, .string b)]).run Try.prog w = .ok (.slice (some ⟨w.heap.size, 0, none⟩) 2 2) (w.alloc (.cells #[.string a, .string b] 9)) := by kernel_rfl
theorem bs3 (a b c : ByteArray) (w : World) : (Instr.buildSlice 34 3 #[(0, .string a), (1, .string b), (2, .string c)]).run Try.prog w = .ok (.slice (some ⟨w.heap.size, 0, none⟩) 3 3) (w.alloc (.cells #[.string a, .string b, .string c] 9)) := by kernel_rfl
theorem bs5 (a b c d e : ByteArray) (w : World) : (Instr.buildSlice 34 5 #[(0, .string a), (1, .string b), (2, .string c), (3, .string d), (4, .string e)]).run Try.prog w = .ok (.slice (some ⟨w.heap.size, 0, none⟩) 5 5) (w.alloc (.cells #[.string a, .string b, .string c, .string d, .string e] 9)) := by kernel_rfl
theorem exec_bs1 {ρ : Operand → Value} {o : Oper} (w : World) (x : Operand) (ho : o.op = .buildSlice 34 1 #[(0, x)]) (a : List UInt8) (hx : ρ x = strV a) : (execOp ρ o).run Try.prog w = .ok (.value (.slice (some ⟨w.heap.size, 0, none⟩) 1 1)) (w.alloc (.cells (sRow [a]) 9)) := by
  have h := bs1 ⟨a.toArray⟩ w
  unfold execOp
  rw [ho]
  simp [hx, strV, sRow, Sem.run_bind, h]
theorem exec_bs2 {ρ : Operand → Value} {o : Oper} (w : World) (x y : Operand) (ho : o.op = .buildSlice 34 2 #[(0, x), (1, y)]) (a b : List UInt8) (hx : ρ x = strV a) (hy : ρ y = strV b) : (execOp ρ o).run Try.prog w = .ok (.value (.slice (some ⟨w.heap.size, 0, none⟩) 2 2)) (w.alloc (.cells (sRow [a, b]) 9)) := by
  have h := bs2 ⟨a.toArray⟩ ⟨b.toArray⟩ w
  unfold execOp
  rw [ho]
  simp [hx, hy, strV, sRow, Sem.run_bind, h]
theorem exec_bs3 {ρ : Operand → Value} {o : Oper} (w : World) (x y z : Operand) (ho : o.op = .buildSlice 34 3 #[(0, x), (1, y), (2, z)]) (a b c : List UInt8) (hx : ρ x = strV a) (hy : ρ y = strV b) (hz : ρ z = strV c) : (execOp ρ o).run Try.prog w = .ok (.value (.slice (some ⟨w.heap.size, 0, none⟩) 3 3)) (w.alloc (.cells (sRow [a, b, c]) 9)) := by
  have h := bs3 ⟨a.toArray⟩ ⟨b.toArray⟩ ⟨c.toArray⟩ w
  unfold execOp
  rw [ho]
  simp [hx, hy, hz, strV, sRow, Sem.run_bind, h]
theorem exec_bs5 {ρ : Operand → Value} {o : Oper} (w : World) (x y z u v : Operand) (ho : o.op = .buildSlice 34 5 #[(0, x), (1, y), (2, z), (3, u), (4, v)]) (a b c d e : List UInt8) (hx : ρ x = strV a) (hy : ρ y = strV b) (hz : ρ z = strV c) (hu : ρ u = strV d) (hv : ρ v = strV e) : (execOp ρ o).run Try.prog w = .ok (.value (.slice (some ⟨w.heap.size, 0, none⟩) 5 5)) (w.alloc (.cells (sRow [a, b, c, d, e]) 9)) := by
  have h := bs5 ⟨a.toArray⟩ ⟨b.toArray⟩ ⟨c.toArray⟩ ⟨d.toArray⟩ ⟨e.toArray⟩ w
  unfold execOp
  rw [ho]
  simp [hx, hy, hz, hu, hv, strV, sRow, Sem.run_bind, h]
theorem zero42 (w : World) : (zeroValue 55).run Try.prog w = .ok (.agg #[.string { data := #[] }, .int .i64 0, .string { data := #[] }]) w := by kernel_rfl
/-- The bytes of the k-th node, and what is left behind it. -/
def nodeU (l : List Nd) (k : Nat) (h : k < l.length) : List UInt8 × List Nd := bytU (fuelN (l.drop (k + 1))) l[k] (l.drop (k + 1))
def nodeR (l : List Nd) (k : Nat) (h : k < l.length) : Value := .tuple #[strV (nodeU l k h).1, .int .i64 (placeU l (nodeU l k h).2 : Int)]
theorem exec_addS {ρ : Operand → Value} {o : Oper} (x y : Operand) (ho : o.op = .binOp .add 9 x y 9) (a b c : ByteArray) (h : a.size + b.size ≤ 9223372036854775807) (hc : a ++ b = c) (hx : ρ x = .string a) (hy : ρ y = .string b) (w : World) : (execOp ρ o).run Try.prog w = .ok (.value (.string c)) w := by
  have h2 := run_string_add_sum (P := Try.prog) (w := w) a b h
  subst hc
  unfold execOp
  rw [ho]
  simp only [hx, hy]
  go_simp
theorem row_below {W W2 : World} {g : Nat} {x : Obj} (h : W.heap[g]? = some x) (hb : Below W.heap.size W W2) : W2.heap[g]? = some x := (hb.block g (Array.getElem?_eq_some_iff.1 h).1).trans h
theorem row_alloc {W : World} {g : Nat} {x : Obj} (h : W.heap[g]? = some x) (o : Obj) : (W.alloc o).heap[g]? = some x := row_below h ((Below.refl _ W).alloc (Nat.le_refl _) o)
theorem en31 : ∀ args w, (callFunc 31 args).run Try.prog w = .ok (.enter 31 args) w := enters_of Try.func31 (by kernel_rfl) rfl
theorem en49 : ∀ args w, (callFunc 45 args).run Try.prog w = .ok (.enter 45 args) w := enters_of Try.func45 (by kernel_rfl) rfl
theorem row_new (w : World) (x : Array Value) (t : TypeId) : (w.alloc (.cells x t)).heap[w.heap.size]? = some (.cells x t (0, 0)) := World.alloc_heap_new w _
set_option maxRecDepth 100000 in
set_option maxHeartbeats 4000000 in
theorem node_step (b o cap : Nat) (l : List Nd) (hl : l.length ≤ 100000) (hp : ∀ c ∈ l, c.path.length ≤ 1000000) (hdt : ∀ c ∈ l, c.data.length ≤ 1000000) (k : Nat) (hk : k < l.length) (hcost : costs l ≤ 100000000000000)
    (IH : ∀ j, k < j → (hj : j < l.length) → ∀ w, Nodes w b o l → Calls Try.prog 30 #[slV b o l.length cap, .int .i64 (j : Int)] w fun e w' => e = .returned (nodeR l j hj) ∧ Below w.heap.size w w') (w : World) (hN : Nodes w b o l) :
    Calls Try.prog 30 #[slV b o l.length cap, .int .i64 (k : Int)] w fun e w' => e = .returned (nodeR l k hk) ∧ Below w.heap.size w w' := by
  have HN := Lib.hid hN
  obtain ⟨d, hd⟩ : ∃ d, Hid (d = l[k]) := ⟨_, Lib.hid rfl⟩
  have c0 := (hN.2 k hk).1
  have c1 := (hN.2 k hk).2.1
  have c2 := (hN.2 k hk).2.2
  rw [← hd.out] at c0 c1 c2
  clear hN
  obtain ⟨P, hP⟩ : ∃ x : ByteArray, Hid (x = ⟨d.path.toArray⟩) := ⟨_, Lib.hid rfl⟩
  obtain ⟨D, hD⟩ : ∃ x : ByteArray, Hid (x = ⟨d.data.toArray⟩) := ⟨_, Lib.hid rfl⟩
  rw [show strV d.path = .string P by rw [hP.out]; rfl] at c0
  rw [show strV d.data = .string D by rw [hD.out]; rfl] at c2
  obtain ⟨kd, hkd⟩ : ∃ x, Hid (x = d.kind) := ⟨_, Lib.hid rfl⟩
  rw [← hkd.out] at c1
  obtain ⟨DV, hDV⟩ : ∃ x : Array Value, Hid (x = #[.string P, .int .i64 kd, .string D]) := ⟨_, Lib.hid rfl⟩
  obtain ⟨V, hV⟩ : ∃ x, Hid (x = nodeR l k hk) := ⟨_, Lib.hid rfl⟩
  rw [← hV.out]
  have HT1 : Hid (∀ (W : World) (bk : Nat), W.heap[bk]? = some (.cells #[.string { data := #[40] }, .string { data := #[116, 121, 112, 101] }] 9 (0, 0)) → Calls Try.prog 31 #[.slice (some ⟨bk, 0, none⟩) 2 2] W fun e w' => e = .returned (strV (strsL [tOpen, tType])) ∧ Below W.heap.size W w') := Lib.hid (fun W bk hr => strs_any bk [tOpen, tType] 2 rfl (by omega) (by decide) (by decide) W hr)
  have hkI : (k : Int) < (l.length : Int) := by omega
  unfold slV
  go_enter Try.func30, Try.ntmps30
  go_wp2_with fail
  rw [← hDV.out]
  have hx1 : Hid (Bx w w.heap.size DV 55 (w.alloc (.cells DV 55))) := Lib.hid ⟨(Below.refl _ w).alloc (Nat.le_refl _) _, row_new w DV 55⟩
  have hsz : (w.alloc (.cells DV 55)).heap.size = w.heap.size + 1 := World.size_alloc _ _
  generalize w.alloc (.cells DV 55) = W1 at *
  rw [← hsz]
  have hx2 := Lib.hid (hx1.out.alloc (.cells #[.string { data := #[40] }, .string { data := #[116, 121, 112, 101] }] 9))
  with_reducible refine (HT1.out _ _ (row_new W1 _ 9)).mono ?_
  rintro e w2 ⟨rfl, hb⟩
  have HX := Lib.hid (hx2.out.below hb)
  clear hb hx1 hx2 HT1 hsz
  obtain ⟨s0, hs0⟩ : ∃ x : ByteArray, Hid (x = ⟨(strsL [tOpen, tType]).toArray⟩) := ⟨_, Lib.hid rfl⟩
  rw [show strV (strsL [tOpen, tType]) = .string s0 by rw [hs0.out]; rfl]
  have d0 := HX.out.cell 0 (.string P) (by rw [hDV.out]; rfl)
  have d1 := HX.out.cell 1 (.int .i64 kd) (by rw [hDV.out]; rfl)
  have d2 := HX.out.cell 2 (.string D) (by rw [hDV.out]; rfl)
  have hs0s : s0.size = 32 := by rw [hs0.out]; rfl
  have hDs : D.size ≤ 1000000 := by rw [hD.out]; exact hdt d (by rw [hd.out]; exact List.getElem_mem _)
  clear c0 c1 c2
  -- kinds
  have hdL : Hid (d.data.length ≤ 1000000) := Lib.hid (hdt d (by rw [hd.out]; exact List.getElem_mem _))
  obtain ⟨cl, hcl⟩ : ∃ x : ByteArray, Hid (x = ⟨(strsL [tClose]).toArray⟩) := ⟨_, Lib.hid rfl⟩
  have hcls : cl.size = 16 := by rw [hcl.out]; rfl
  have HTc : Hid (∀ (W : World) (bk : Nat), W.heap[bk]? = some (.cells #[.string { data := #[41] }] 9 (0, 0)) → Calls Try.prog 31 #[.slice (some ⟨bk, 0, none⟩) 1 1] W fun e w' => e = .returned (.string cl) ∧ Below W.heap.size W w') := Lib.hid (fun W bk hr => by
    rw [hcl.out]
    exact strs_any bk [tClose] 1 rfl (by omega) (by decide) (by decide) W hr)
  -- kinds
  have hdL : Hid (d.data.length ≤ 1000000) := Lib.hid (hdt d (by rw [hd.out]; exact List.getElem_mem _))
  obtain ⟨cl, hcl⟩ : ∃ x : ByteArray, Hid (x = ⟨(strsL [tClose]).toArray⟩) := ⟨_, Lib.hid rfl⟩
  have hcls : cl.size = 16 := by rw [hcl.out]; rfl
  have HTc : Hid (∀ (W : World) (bk : Nat), W.heap[bk]? = some (.cells #[.string { data := #[41] }] 9 (0, 0)) → Calls Try.prog 31 #[.slice (some ⟨bk, 0, none⟩) 1 1] W fun e w' => e = .returned (.string cl) ∧ Below W.heap.size W w') := Lib.hid (fun W bk hr => by
    rw [hcl.out]
    exact strs_any bk [tClose] 1 rfl (by omega) (by decide) (by decide) W hr)
  -- kinds
  have hdL : Hid (d.data.length ≤ 1000000) := Lib.hid (hdt d (by rw [hd.out]; exact List.getElem_mem _))
  obtain ⟨cl, hcl⟩ : ∃ x : ByteArray, Hid (x = ⟨(strsL [tClose]).toArray⟩) := ⟨_, Lib.hid rfl⟩
  have hcls : cl.size = 16 := by rw [hcl.out]; rfl
  have HTc : Hid (∀ (W : World) (bk : Nat), W.heap[bk]? = some (.cells #[.string { data := #[41] }] 9 (0, 0)) → Calls Try.prog 31 #[.slice (some ⟨bk, 0, none⟩) 1 1] W fun e w' => e = .returned (.string cl) ∧ Below W.heap.size W w') := Lib.hid (fun W bk hr => by
    rw [hcl.out]
    exact strs_any bk [tClose] 1 rfl (by omega) (by decide) (by decide) W hr)
  -- kinds
  have hdL : Hid (d.data.length ≤ 1000000) := Lib.hid (hdt d (by rw [hd.out]; exact List.getElem_mem _))
  obtain ⟨cl, hcl⟩ : ∃ x : ByteArray, Hid (x = ⟨(strsL [tClose]).toArray⟩) := ⟨_, Lib.hid rfl⟩
  have hcls : cl.size = 16 := by rw [hcl.out]; rfl
  have HTc : Hid (∀ (W : World) (bk : Nat), W.heap[bk]? = some (.cells #[.string { data := #[41] }] 9 (0, 0)) → Calls Try.prog 31 #[.slice (some ⟨bk, 0, none⟩) 1 1] W fun e w' => e = .returned (.string cl) ∧ Below W.heap.size W w') := Lib.hid (fun W bk hr => by
    rw [hcl.out]
    exact strs_any bk [tClose] 1 rfl (by omega) (by decide) (by decide) W hr)
  -- kinds
  have hdL : Hid (d.data.length ≤ 1000000) := Lib.hid (hdt d (by rw [hd.out]; exact List.getElem_mem _))
  obtain ⟨cl, hcl⟩ : ∃ x : ByteArray, Hid (x = ⟨(strsL [tClose]).toArray⟩) := ⟨_, Lib.hid rfl⟩
  have hcls : cl.size = 16 := by rw [hcl.out]; rfl
  have HTc : Hid (∀ (W : World) (bk : Nat), W.heap[bk]? = some (.cells #[.string { data := #[41] }] 9 (0, 0)) → Calls Try.prog 31 #[.slice (some ⟨bk, 0, none⟩) 1 1] W fun e w' => e = .returned (.string cl) ∧ Below W.heap.size W w') := Lib.hid (fun W bk hr => by
    rw [hcl.out]
    exact strs_any bk [tClose] 1 rfl (by omega) (by decide) (by decide) W hr)
  by_cases k1 : kd = 1
  · have hkl : d.kind = 1 := by rw [← hkd.out]; exact k1
    obtain ⟨t1, ht1⟩ : ∃ x : ByteArray, Hid (x = ⟨(strsL [tReg, tCont, d.data]).toArray⟩) := ⟨_, Lib.hid rfl⟩
    have ht1L : Hid (t1.size = (strsL [tReg, tCont, d.data]).length) := Lib.hid (by rw [ht1.out]; rfl)
    have ht1s : t1.size ≤ 1000200 := by
      have h1 := strL_le d.data
      have h2 := hdL.out
      rw [ht1L.out]
      simp only [strsL_cons, strsL_nil, List.length_append, List.length_nil]
      rw [show (strL tReg).length = 16 from rfl, show (strL tCont).length = 16 from rfl]
      omega
    have HT : Hid (∀ (W : World) (bk : Nat), W.heap[bk]? = some (.cells #[.string { data := #[114, 101, 103, 117, 108, 97, 114] }, .string { data := #[99, 111, 110, 116, 101, 110, 116, 115] }, .string D] 9 (0, 0)) → Calls Try.prog 31 #[.slice (some ⟨bk, 0, none⟩) 3 3] W fun e w' => e = .returned (.string t1) ∧ Below W.heap.size W w') := Lib.hid (fun W bk hr => by
      have h := strs_any bk [tReg, tCont, d.data] 3 rfl (by omega) (by intro t ht; simp only [List.mem_cons, List.not_mem_nil, or_false] at ht; rcases ht with rfl | rfl | rfl <;> first | decide | exact hdL.out) (by rw [← ht1L.out]; omega) W (by rw [hr]; rw [show sRow [tReg, tCont, d.data] = #[.string { data := #[114, 101, 103, 117, 108, 97, 114] }, .string { data := #[99, 111, 110, 116, 101, 110, 116, 115] }, .string D] by rw [hD.out]; rfl])
      rw [ht1.out]
      exact h)
    obtain ⟨s1, hs1⟩ : ∃ x : ByteArray, Hid (x = s0 ++ t1) := ⟨_, Lib.hid rfl⟩
    have hs1e : s0 ++ t1 = s1 := hs1.out.symm
    have hs1z : (s0 ++ t1).size = s0.size + t1.size := ByteArray.size_append
    have hs1s : s1.size ≤ 2000000 := by rw [hs1.out, hs1z]; omega
    have hs2z : (s1 ++ cl).size = s1.size + cl.size := ByteArray.size_append
    have hz : Hid (V = .tuple #[.string (s1 ++ cl), .int .i64 ((k : Int) + 1)]) := Lib.hid (by
      rw [hV.out]
      unfold nodeR nodeU
      rw [← hd.out, fuelN]
      have e := (byt_1 (2 * (l.drop (k + 1)).length + 1) d (l.drop (k + 1)) [] hkl)
      rw [List.append_nil, List.append_nil] at e
      rw [e.1, e.2, hs1.out, hs0.out, ht1.out, hcl.out, strV_cat, strV_cat]
      have e2 : placeU l (l.drop (k + 1)) = k + 1 := by unfold placeU; rw [List.length_drop]; omega
      rw [e2]
      simp only [strsL_cons, strsL_nil, List.append_assoc, List.append_nil, List.nil_append, strV]
      rfl)
    clear hs1
    go_wp2_with fail
    have hx3 := Lib.hid (HX.out.alloc (.cells #[.string { data := #[114, 101, 103, 117, 108, 97, 114] }, .string { data := #[99, 111, 110, 116, 101, 110, 116, 115] }, .string D] 9))
    with_reducible refine (HT.out _ _ (row_new w2 _ 9)).mono ?_
    rintro e w3 ⟨rfl, hb⟩
    have HX3 := Lib.hid (hx3.out.below hb)
    clear hb hx3 HT
    go_wp2_with fail
    have hx4 := Lib.hid (HX3.out.alloc (.cells #[.string { data := #[41] }] 9))
    with_reducible refine (HTc.out _ _ (row_new w3 _ 9)).mono ?_
    rintro e w4 ⟨rfl, hb⟩
    have HX4 := Lib.hid (hx4.out.below hb)
    clear hb hx4 HTc
    go_wp2_with fail
    exact ⟨rfl, _, results_tmps rfl _ _ _, by rw [hz.out]; rfl, HX4.out.1⟩
  by_cases k2 : kd = 2
  · have hkl : d.kind = 2 := by rw [← hkd.out]; exact k2
    obtain ⟨t1, ht1⟩ : ∃ x : ByteArray, Hid (x = ⟨(strsL [tReg, tExec, [], tCont, d.data]).toArray⟩) := ⟨_, Lib.hid rfl⟩
    have ht1L : Hid (t1.size = (strsL [tReg, tExec, [], tCont, d.data]).length) := Lib.hid (by rw [ht1.out]; rfl)
    have ht1s : t1.size ≤ 1000200 := by
      have h1 := strL_le d.data
      have h2 := hdL.out
      rw [ht1L.out]
      simp only [strsL_cons, strsL_nil, List.length_append, List.length_nil]
      rw [show (strL tReg).length = 16 from rfl, show (strL tExec).length = 24 from rfl, show (strL []).length = 8 from rfl, show (strL tCont).length = 16 from rfl]
      omega
    have HT : Hid (∀ (W : World) (bk : Nat), W.heap[bk]? = some (.cells #[.string { data := #[114, 101, 103, 117, 108, 97, 114] }, .string { data := #[101, 120, 101, 99, 117, 116, 97, 98, 108, 101] }, .string { data := #[] }, .string { data := #[99, 111, 110, 116, 101, 110, 116, 115] }, .string D] 9 (0, 0)) → Calls Try.prog 31 #[.slice (some ⟨bk, 0, none⟩) 5 5] W fun e w' => e = .returned (.string t1) ∧ Below W.heap.size W w') := Lib.hid (fun W bk hr => by
      have h := strs_any bk [tReg, tExec, [], tCont, d.data] 5 rfl (by omega) (by intro t ht; simp only [List.mem_cons, List.not_mem_nil, or_false] at ht; rcases ht with rfl | rfl | rfl | rfl | rfl <;> first | decide | exact hdL.out) (by rw [← ht1L.out]; omega) W (by rw [hr]; rw [show sRow [tReg, tExec, [], tCont, d.data] = #[.string { data := #[114, 101, 103, 117, 108, 97, 114] }, .string { data := #[101, 120, 101, 99, 117, 116, 97, 98, 108, 101] }, .string { data := #[] }, .string { data := #[99, 111, 110, 116, 101, 110, 116, 115] }, .string D] by rw [hD.out]; rfl])
      rw [ht1.out]
      exact h)
    obtain ⟨s1, hs1⟩ : ∃ x : ByteArray, Hid (x = s0 ++ t1) := ⟨_, Lib.hid rfl⟩
    have hs1e : s0 ++ t1 = s1 := hs1.out.symm
    have hs1z : (s0 ++ t1).size = s0.size + t1.size := ByteArray.size_append
    have hs1s : s1.size ≤ 2000000 := by rw [hs1.out, hs1z]; omega
    have hs2z : (s1 ++ cl).size = s1.size + cl.size := ByteArray.size_append
    have hz : Hid (V = .tuple #[.string (s1 ++ cl), .int .i64 ((k : Int) + 1)]) := Lib.hid (by
      rw [hV.out]
      unfold nodeR nodeU
      rw [← hd.out, fuelN]
      have e := (byt_2 (2 * (l.drop (k + 1)).length + 1) d (l.drop (k + 1)) [] hkl)
      rw [List.append_nil, List.append_nil] at e
      rw [e.1, e.2, hs1.out, hs0.out, ht1.out, hcl.out, strV_cat, strV_cat]
      have e2 : placeU l (l.drop (k + 1)) = k + 1 := by unfold placeU; rw [List.length_drop]; omega
      rw [e2]
      simp only [strsL_cons, strsL_nil, List.append_assoc, List.append_nil, List.nil_append, strV]
      rfl)
    clear hs1
    go_wp2_with fail
    have hx3 := Lib.hid (HX.out.alloc (.cells #[.string { data := #[114, 101, 103, 117, 108, 97, 114] }, .string { data := #[101, 120, 101, 99, 117, 116, 97, 98, 108, 101] }, .string { data := #[] }, .string { data := #[99, 111, 110, 116, 101, 110, 116, 115] }, .string D] 9))
    with_reducible refine (HT.out _ _ (row_new w2 _ 9)).mono ?_
    rintro e w3 ⟨rfl, hb⟩
    have HX3 := Lib.hid (hx3.out.below hb)
    clear hb hx3 HT
    go_wp2_with fail
    have hx4 := Lib.hid (HX3.out.alloc (.cells #[.string { data := #[41] }] 9))
    with_reducible refine (HTc.out _ _ (row_new w3 _ 9)).mono ?_
    rintro e w4 ⟨rfl, hb⟩
    have HX4 := Lib.hid (hx4.out.below hb)
    clear hb hx4 HTc
    go_wp2_with fail
    exact ⟨rfl, _, results_tmps rfl _ _ _, by rw [hz.out]; rfl, HX4.out.1⟩
  by_cases k3 : kd = 3
  · have hkl : d.kind = 3 := by rw [← hkd.out]; exact k3
    obtain ⟨t1, ht1⟩ : ∃ x : ByteArray, Hid (x = ⟨(strsL [tSym, tTarg, d.data]).toArray⟩) := ⟨_, Lib.hid rfl⟩
    have ht1L : Hid (t1.size = (strsL [tSym, tTarg, d.data]).length) := Lib.hid (by rw [ht1.out]; rfl)
    have ht1s : t1.size ≤ 1000200 := by
      have h1 := strL_le d.data
      have h2 := hdL.out
      rw [ht1L.out]
      simp only [strsL_cons, strsL_nil, List.length_append, List.length_nil]
      rw [show (strL tSym).length = 16 from rfl, show (strL tTarg).length = 16 from rfl]
      omega
    have HT : Hid (∀ (W : World) (bk : Nat), W.heap[bk]? = some (.cells #[.string { data := #[115, 121, 109, 108, 105, 110, 107] }, .string { data := #[116, 97, 114, 103, 101, 116] }, .string D] 9 (0, 0)) → Calls Try.prog 31 #[.slice (some ⟨bk, 0, none⟩) 3 3] W fun e w' => e = .returned (.string t1) ∧ Below W.heap.size W w') := Lib.hid (fun W bk hr => by
      have h := strs_any bk [tSym, tTarg, d.data] 3 rfl (by omega) (by intro t ht; simp only [List.mem_cons, List.not_mem_nil, or_false] at ht; rcases ht with rfl | rfl | rfl <;> first | decide | exact hdL.out) (by rw [← ht1L.out]; omega) W (by rw [hr]; rw [show sRow [tSym, tTarg, d.data] = #[.string { data := #[115, 121, 109, 108, 105, 110, 107] }, .string { data := #[116, 97, 114, 103, 101, 116] }, .string D] by rw [hD.out]; rfl])
      rw [ht1.out]
      exact h)
    obtain ⟨s1, hs1⟩ : ∃ x : ByteArray, Hid (x = s0 ++ t1) := ⟨_, Lib.hid rfl⟩
    have hs1e : s0 ++ t1 = s1 := hs1.out.symm
    have hs1z : (s0 ++ t1).size = s0.size + t1.size := ByteArray.size_append
    have hs1s : s1.size ≤ 2000000 := by rw [hs1.out, hs1z]; omega
    have hs2z : (s1 ++ cl).size = s1.size + cl.size := ByteArray.size_append
    have hz : Hid (V = .tuple #[.string (s1 ++ cl), .int .i64 ((k : Int) + 1)]) := Lib.hid (by
      rw [hV.out]
      unfold nodeR nodeU
      rw [← hd.out, fuelN]
      have e := (byt_3 (2 * (l.drop (k + 1)).length + 1) d (l.drop (k + 1)) [] hkl)
      rw [List.append_nil, List.append_nil] at e
      rw [e.1, e.2, hs1.out, hs0.out, ht1.out, hcl.out, strV_cat, strV_cat]
      have e2 : placeU l (l.drop (k + 1)) = k + 1 := by unfold placeU; rw [List.length_drop]; omega
      rw [e2]
      simp only [strsL_cons, strsL_nil, List.append_assoc, List.append_nil, List.nil_append, strV]
      rfl)
    clear hs1
    go_wp2_with fail
    have hx3 := Lib.hid (HX.out.alloc (.cells #[.string { data := #[115, 121, 109, 108, 105, 110, 107] }, .string { data := #[116, 97, 114, 103, 101, 116] }, .string D] 9))
    with_reducible refine (HT.out _ _ (row_new w2 _ 9)).mono ?_
    rintro e w3 ⟨rfl, hb⟩
    have HX3 := Lib.hid (hx3.out.below hb)
    clear hb hx3 HT
    go_wp2_with fail
    have hx4 := Lib.hid (HX3.out.alloc (.cells #[.string { data := #[41] }] 9))
    with_reducible refine (HTc.out _ _ (row_new w3 _ 9)).mono ?_
    rintro e w4 ⟨rfl, hb⟩
    have HX4 := Lib.hid (hx4.out.below hb)
    clear hb hx4 HTc
    go_wp2_with fail
    exact ⟨rfl, _, results_tmps rfl _ _ _, by rw [hz.out]; rfl, HX4.out.1⟩
  have hk4 : ¬ d.kind = 1 ∧ ¬ d.kind = 2 ∧ ¬ d.kind = 3 := by rw [← hkd.out]; exact ⟨k1, k2, k3⟩
  obtain ⟨n, hn⟩ : ∃ n, Hid (n = l.length) := ⟨_, Lib.hid rfl⟩
  obtain ⟨TOT, hTOT⟩ : ∃ x, Hid (x = strsL [tOpen, tType, tDir] ++ (entU (2 * (n - (k + 1)) + 1) d.path (l.drop (k + 1))).1) := ⟨_, Lib.hid rfl⟩
  obtain ⟨RST, hRST⟩ : ∃ x, Hid (x = (entU (2 * (n - (k + 1)) + 1) d.path (l.drop (k + 1))).2) := ⟨_, Lib.hid rfl⟩
  have hfin : Hid (V = .tuple #[strV (TOT ++ strL tClose), .int .i64 (placeU l RST : Int)] ∧ TOT.length ≤ 1000000000000000) := Lib.hid (by
    have hF : fuelN (l.drop (k + 1)) = 2 * (n - (k + 1)) + 1 + 1 := by unfold fuelN; rw [List.length_drop, ← hn.out]
    have hc := (byt_cost (2 * (n - (k + 1)) + 1 + 1)).1 d (l.drop (k + 1))
    have hdl := hdL.out
    have hcl2 : costs (l.drop (k + 1)) ≤ costs l := by
      conv => rhs; rw [← List.take_append_drop (k + 1) l]
      unfold costs
      rw [List.map_append, List.sum_append]
      omega
    rw [bytU_succ, if_neg hk4.1, if_neg hk4.2.1, if_neg hk4.2.2] at hc
    have hlen : (strsL [tOpen, tType, tDir] ++ ((entU (2 * (n - (k + 1)) + 1) d.path (l.drop (k + 1))).1 ++ strL tClose)).length ≤ costB d + costs (l.drop (k + 1)) := by
      have := hc
      simp only at this
      omega
    unfold costB at hlen
    rw [← List.append_assoc, ← hTOT.out, List.length_append] at hlen
    refine ⟨?_, by omega⟩
    rw [hV.out]
    unfold nodeR nodeU
    rw [← hd.out, hF, bytU_succ, if_neg hk4.1, if_neg hk4.2.1, if_neg hk4.2.2, hTOT.out, hRST.out, List.append_assoc])
  have HTd : Hid (∀ (W : World) (bk : Nat), W.heap[bk]? = some (.cells #[.string { data := #[100, 105, 114, 101, 99, 116, 111, 114, 121] }] 9 (0, 0)) → Calls Try.prog 31 #[.slice (some ⟨bk, 0, none⟩) 1 1] W fun e w' => e = .returned (strV (strL tDir)) ∧ Below W.heap.size W w') := Lib.hid (fun W bk hr => by
    have h := strs_any bk [tDir] 1 rfl (by omega) (by decide) (by decide) W hr
    rw [strsL_cons, strsL_nil, List.append_nil] at h
    exact h)
  obtain ⟨td, htd⟩ : ∃ x : ByteArray, Hid (x = ⟨(strL tDir).toArray⟩) := ⟨_, Lib.hid rfl⟩
  have htds : td.size = 24 := by rw [htd.out]; rfl
  rw [show strV (strL tDir) = .string td by rw [htd.out]; rfl] at HTd
  obtain ⟨s1, hs1⟩ : ∃ x : ByteArray, Hid (x = s0 ++ td) := ⟨_, Lib.hid rfl⟩
  have hs1e : s0 ++ td = s1 := hs1.out.symm
  have hs1z : (s0 ++ td).size = s0.size + td.size := ByteArray.size_append
  have hs1L : Hid (s1.data.toList = strsL [tOpen, tType, tDir]) := Lib.hid (by
    rw [hs1.out, hs0.out, htd.out, strV_cat]
    simp [strsL_cons, strsL_nil])
  clear hs1
  go_wp2_with fail
  have hx3 := Lib.hid (HX.out.alloc (.cells #[.string { data := #[100, 105, 114, 101, 99, 116, 111, 114, 121] }] 9))
  with_reducible refine (HTd.out _ _ (row_new w2 _ 9)).mono ?_
  rintro e w3 ⟨rfl, hb⟩
  have HX3 := Lib.hid (hx3.out.below hb)
  clear hb hx3 HTd HX d0 d1 d2
  go_wp2_with fail
  obtain ⟨gd, hgd⟩ : ∃ g, Hid (g = w.heap.size) := ⟨_, Lib.hid rfl⟩
  rw [← hgd.out] at HX3 ⊢
  have HIH : Hid (∀ j, k < j → (hj : j < l.length) → ∀ w, Nodes w b o l → Calls Try.prog 30 #[.slice (some ⟨b, o, none⟩) l.length cap, .int .i64 (j : Int)] w fun e w' => e = .returned (nodeR l j hj) ∧ Below w.heap.size w w') := Lib.hid IH
  clear IH
  rw [← hn.out] at hl ⊢
  have hkn : k < n := by have := hn.out; omega
  go_loopw [7, 8] (fun x y wr => ∃ (j : Nat) (A : ByteArray), k + 1 ≤ j ∧ j ≤ n ∧ x = .string A ∧ y = .int .i64 (j : Int) ∧ A.data.toList ++ (entU (2 * (n - j) + 1) d.path (l.drop j)).1 = TOT ∧ (entU (2 * (n - j) + 1) d.path (l.drop j)).2 = RST ∧ Bx w gd DV 55 wr) (fun x y _ => n - (intOf y).toNat)
  case atStart => exact ⟨k + 1, s1, Nat.le_refl _, by omega, rfl, by first | rfl | simp | go_num, by rw [hs1L.out, hTOT.out], by rw [hRST.out], HX3.out⟩
  case round =>
    clear HX3 hs1L hs1e hs1z
    obtain ⟨j, A, hj1, hj, rfl, rfl, hacc, hrst, hbx⟩ := hrel
    have HACC := Lib.hid hacc
    have HRST := Lib.hid hrst
    have HXr := Lib.hid hbx
    clear hacc hrst hbx
    have hAs : A.size ≤ 1000000000000000 := by
      have h1 := hfin.out.2
      rw [← HACC.out, List.length_append] at h1
      have : A.data.toList.length = A.size := rfl
      omega
    have hlast : Hid ((entU (2 * (n - j) + 1) d.path (l.drop j)).1 = [] → (entU (2 * (n - j) + 1) d.path (l.drop j)).2 = l.drop j → V = .tuple #[.string (A ++ cl), .int .i64 (j : Int)]) := Lib.hid (fun h1 h2 => by
      have e1 := HACC.out
      have e2 := HRST.out
      rw [h1, List.append_nil] at e1
      rw [h2] at e2
      rw [hfin.out.1, ← e1, ← e2]
      have e3 : placeU l (l.drop j) = j := by unfold placeU; rw [List.length_drop]; have := hn.out; omega
      rw [e3, hcl.out]
      have e4 : A ++ (⟨(strsL [tClose]).toArray⟩ : ByteArray) = ⟨(A.data.toList ++ strL tClose).toArray⟩ := by
        conv => lhs; rw [bytes_eta A]
        rw [strV_cat]
        simp [strsL_cons, strsL_nil]
      rw [e4]
      rfl)
    have hAc : (A ++ cl).size = A.size + cl.size := ByteArray.size_append
    have p0 := HXr.out.cell 0 (.string P) (by rw [hDV.out]; rfl)
    by_cases hlt : j < n
    · have hltI : (j : Int) < (n : Int) := by omega
      have hjl : j < l.length := by have := hn.out; omega
      have q0 := ((HN.out.below (W2 := wr) HXr.out.1).2 j hjl).1
      obtain ⟨c, hc⟩ : ∃ c, Hid (c = l[j]) := ⟨_, Lib.hid rfl⟩
      rw [← hc.out] at q0
      obtain ⟨CP, hCP⟩ : ∃ x : ByteArray, Hid (x = ⟨c.path.toArray⟩) := ⟨_, Lib.hid rfl⟩
      rw [show strV c.path = .string CP by rw [hCP.out]; rfl] at q0
      obtain ⟨M, hM⟩ : ∃ x : ByteArray, Hid (x = ⟨(nameL c.path d.path).toArray⟩) := ⟨_, Lib.hid rfl⟩
      have hcp : c.path.length ≤ 1000000 := hp _ (by rw [hc.out]; exact List.getElem_mem _)
      have HC : Hid (∀ w, Calls Try.prog 45 #[.string CP, .string P] w fun e w' => e = .returned (.string M) ∧ w' = w) := Lib.hid (fun w => by
        have h := name_any CP P (by rw [hCP.out]; exact hcp) (by rw [hP.out]; exact hp _ (by rw [hd.out]; exact List.getElem_mem _)) w
        rw [show CP.data.toList = c.path by rw [hCP.out], show P.data.toList = d.path by rw [hP.out]] at h
        rw [hM.out]
        exact h)
      have hML : M.toList = nameL c.path d.path := by rw [ByteArray.toList_eq, hM.out]
      by_cases hne : nameL c.path d.path = []
      · have hz := Lib.hid (hlast.out (by rw [List.drop_eq_getElem_cons hjl, ← hc.out, entU_stop _ _ _ _ hne]) (by rw [List.drop_eq_getElem_cons hjl, ← hc.out, entU_stop _ _ _ _ hne]))
        have hM0 : M.toList.isEmpty = true := by rw [hML, hne]; rfl
        clear hML hne
        go_wp2_with fail
        go_quiet (with_reducible exact Calls.quiet_of_same (HC.out _))
        have HXq := Lib.hid (HXr.out.drewN nq)
        generalize wr.drewN nq = wq at *
        go_wp2_with fail
        have hx4 := Lib.hid (HXq.out.alloc (.cells #[.string { data := #[41] }] 9))
        with_reducible refine (HTc.out _ _ (row_new wq _ 9)).mono ?_
        rintro e w4 ⟨rfl, hb⟩
        have HX4 := Lib.hid (hx4.out.below hb)
        clear hb hx4 HTc
        go_wp2_with fail
        exact ⟨rfl, _, results_tmps rfl _ _ _, by rw [hz.out]; rfl, HX4.out.1⟩
      · obtain ⟨X, hX⟩ : ∃ x : ByteArray, Hid (x = ⟨(nodeU l j hjl).1.toArray⟩) := ⟨_, Lib.hid rfl⟩
        obtain ⟨j2, hj2⟩ : ∃ x, Hid (x = placeU l (nodeU l j hjl).2) := ⟨_, Lib.hid rfl⟩
        have HR : Hid (∀ w, Nodes w b o l → Calls Try.prog 30 #[.slice (some ⟨b, o, none⟩) n cap, .int .i64 (j : Int)] w fun e w' => e = .returned (.tuple #[.string X, .int .i64 (j2 : Int)]) ∧ Below w.heap.size w w') := Lib.hid (fun w hw => by
          have h := HIH.out j (by omega) hjl w hw
          rw [show nodeR l j hjl = .tuple #[.string X, .int .i64 (j2 : Int)] by rw [hX.out, hj2.out]; rfl, ← hn.out] at h
          exact h)
        have hM1 : M.toList.isEmpty = false := by
          rw [hML]
          cases h : nameL c.path d.path with
          | nil => exact absurd h hne
          | cons => rfl
        have hneH := Lib.hid hne
        have hMLH := Lib.hid hML
        clear hML hne hlast
        go_wp2_with fail
        go_quiet (with_reducible exact Calls.quiet_of_same (HC.out _))
        have HXq := Lib.hid (HXr.out.drewN nq)
        generalize wr.drewN nq = wq at *
        go_wp2_with fail
        have HNq := Lib.hid (HN.out.below (W2 := wq) HXq.out.1)
        with_reducible refine (HR.out _ HNq.out).mono ?_
        rintro e w5 ⟨rfl, hb⟩
        have HX5 := Lib.hid (HXq.out.below hb)
        clear hb HXq HNq HR HXr p0 q0
        go_wp2_with fail
        obtain ⟨ent, hent⟩ : ∃ x, Hid (x = strsL [tEntry, tOpen, tName, nameL c.path d.path, tNode]) := ⟨_, Lib.hid rfl⟩
        obtain ⟨t1, ht1⟩ : ∃ x : ByteArray, Hid (x = ⟨ent.toArray⟩) := ⟨_, Lib.hid rfl⟩
        have hnl := name_len c.path d.path
        have hents : ent.length ≤ 1000100 := by
          have h1 := strL_le (nameL c.path d.path)
          rw [hent.out]
          simp only [strsL_cons, strsL_nil, List.length_append, List.length_nil]
          rw [show (strL tEntry).length = 16 from rfl, show (strL tOpen).length = 16 from rfl, show (strL tName).length = 16 from rfl, show (strL tNode).length = 16 from rfl]
          omega
        have HEn : Hid (∀ (W : World) (bk : Nat), W.heap[bk]? = some (.cells (sRow [tEntry, tOpen, tName, nameL c.path d.path, tNode]) 9 (0, 0)) → Calls Try.prog 31 #[.slice (some ⟨bk, 0, none⟩) 5 5] W fun e w' => e = .returned (.string t1) ∧ Below W.heap.size W w') := Lib.hid (fun W bk hr => by
          have h := strs_any bk [tEntry, tOpen, tName, nameL c.path d.path, tNode] 5 rfl (by omega) (by intro t ht; simp only [List.mem_cons, List.not_mem_nil, or_false] at ht; rcases ht with rfl | rfl | rfl | rfl | rfl <;> first | decide | exact Nat.le_trans hnl hcp) (by rw [← hent.out]; omega) W hr
          rw [ht1.out, hent.out]
          exact h)
        obtain ⟨R2, hR2⟩ : ∃ x, Hid (x = (nodeU l j hjl).2) := ⟨_, Lib.hid rfl⟩
        have hsplit : Hid (A.data.toList ++ (ent ++ ((nodeU l j hjl).1 ++ (strL tClose ++ (entU (2 * (n - j2) + 1) d.path (l.drop j2)).1))) = TOT ∧ (entU (2 * (n - j2) + 1) d.path (l.drop j2)).2 = RST ∧ j + 1 ≤ j2 ∧ j2 ≤ n) := Lib.hid (by
          have e1 := HACC.out
          have e2 := HRST.out
          rw [List.drop_eq_getElem_cons hjl, ← hc.out, entU_cons _ _ _ _ hneH.out] at e1 e2
          have hF : fuelN (l.drop (j + 1)) = 2 * (n - j) := by unfold fuelN; rw [List.length_drop, ← hn.out]; omega
          have hB : bytU (2 * (n - j)) c (l.drop (j + 1)) = nodeU l j hjl := by unfold nodeU; rw [hF, hc.out]
          rw [hB, ← hent.out] at e1
          rw [hB] at e2
          have hsuf : (nodeU l j hjl).2 <:+ l.drop (j + 1) := (byt_suf _).1 _ _
          have hlen := hsuf.length_le
          rw [List.length_drop, ← hn.out] at hlen
          have hj2v : j2 = n - (nodeU l j hjl).2.length := by rw [hj2.out]; unfold placeU; rw [← hn.out]
          have hdrop : l.drop j2 = (nodeU l j hjl).2 := by rw [hj2.out]; exact drop_of_suf (hsuf.trans (List.drop_suffix _ _))
          have hfu : entU (2 * (n - j)) d.path (nodeU l j hjl).2 = entU (2 * (n - j2) + 1) d.path (l.drop j2) := by
            rw [hdrop]
            exact (byt_fuel _ _).2 _ _ (by omega) (by omega)
          rw [hfu] at e1 e2
          refine ⟨e1, e2, by omega, by omega⟩)
        obtain ⟨B1, hB1⟩ : ∃ x : ByteArray, Hid (x = A ++ t1) := ⟨_, Lib.hid rfl⟩
        obtain ⟨B2, hB2⟩ : ∃ x : ByteArray, Hid (x = B1 ++ X) := ⟨_, Lib.hid rfl⟩
        obtain ⟨B3, hB3⟩ : ∃ x : ByteArray, Hid (x = B2 ++ cl) := ⟨_, Lib.hid rfl⟩
        have b1e : A ++ t1 = B1 := hB1.out.symm
        have b2e : B1 ++ X = B2 := hB2.out.symm
        have b3e : B2 ++ cl = B3 := hB3.out.symm
        have b1z : (A ++ t1).size = A.size + t1.size := ByteArray.size_append
        have b2z : (B1 ++ X).size = B1.size + X.size := ByteArray.size_append
        have b3z : (B2 ++ cl).size = B2.size + cl.size := ByteArray.size_append
        have hB3L : Hid (B3.data.toList = A.data.toList ++ (ent ++ ((nodeU l j hjl).1 ++ strL tClose))) := Lib.hid (by
          rw [hB3.out, hB2.out, hB1.out, ht1.out, hX.out, hcl.out]
          simp [strsL_cons, strsL_nil, List.append_assoc])
        have htot := hfin.out.2
        have hB3s : B3.size ≤ 1000000000000000 := by
          have h1 := hsplit.out.1
          have h2 := hB3L.out
          have h3 : B3.data.toList.length = B3.size := rfl
          rw [← h3, h2]
          rw [← h1] at htot
          simp only [List.length_append] at htot ⊢
          omega
        have b4 : B2.size + cl.size ≤ 1000000000000000 := by rw [← b3z, b3e]; exact hB3s
        have b5 : B1.size + X.size ≤ 1000000000000000 := by rw [← b2z, b2e]; omega
        have b6 : A.size + t1.size ≤ 1000000000000000 := by rw [← b1z, b1e]; omega
        have hCPV : Hid (strV c.path = .string CP) := Lib.hid (by rw [hCP.out]; rfl)
        obtain ⟨f1, f2⟩ := hsplit.out.2.2
        refine R.wp_cut (fun a' W' => ∃ gb ge, a' = { tmps := #[.slice (some ⟨b, o, none⟩) n cap, .int .i64 (k : Int), undef, undef, .string { data := #[] }, .int .i64 0, .pointer (some ⟨gd, 0, none⟩), .string B3, .int .i64 (j : Int), .string X, .int .i64 (j2 : Int), .slice (some ⟨b, o, none⟩) n cap, .int .i64 (k : Int), .pointer (some ⟨b, o + k * 3, none⟩), .agg DV, .slice (some ⟨W1.heap.size, 0, none⟩) 2 2, .string s0, .int .i64 (k : Int), .int .i64 ((k : Int) + 1), .pointer (some ⟨gd, 1, none⟩), .int .i64 kd, .string s0, .slice (some ⟨w2.heap.size, 0, none⟩) 1 1, .string td, .string s1, .int .i64 (j : Int), .slice (some ⟨b, o, none⟩) n cap, .int .i64 (n : Int), .bool true, .bool true, .slice (some ⟨b, o, none⟩) n cap, .int .i64 (j : Int), .pointer (some ⟨b, o + j * 3, none⟩), .pointer (some ⟨b, o + j * 3, none⟩), .string CP, .pointer (some ⟨gd, 0, none⟩), .string P, .string M, .bool true, .bool true, .tuple #[.string X, .int .i64 (j2 : Int)], .slice (some ⟨b, o, none⟩) n cap, .int .i64 (j : Int), .tuple #[.string X, .int .i64 (j2 : Int)], .string X, .int .i64 (j2 : Int), .string A, .slice (some ⟨b, o, none⟩) n cap, .int .i64 (j : Int), .pointer (some ⟨b, o + j * 3, none⟩), .pointer (some ⟨b, o + j * 3, none⟩), .string CP, .pointer (some ⟨gd, 0, none⟩), .string P, .string M, .slice (some ⟨ge, 0, none⟩) 5 5, .string t1, .string B1, .string X, .string B2, .slice (some ⟨gb, 0, none⟩) 1 1, .string cl, .string B3, u63, .bool false, .bool false, undef, undef, undef, undef, undef, undef, .bool false, .bool false, undef, undef, undef, undef, undef, undef, .bool false, .bool false, undef, undef, undef, undef, undef, undef, undef, undef, undef, undef, undef], defers := [] } ∧ Bx w gd DV 55 W') ?_ ?_
        · skip
          refine wp_region_any (by kernel_rfl) ?_
          change wpAny _ _ _ _ _ _ _ (World.drew _)
          have HDr := Lib.hid (HX5.out.drewN 1)
          change Hid (Bx w gd DV 55 (w5.drew)) at HDr
          generalize w5.drew = wd at *
          refine R.any_of_F (S := Bx w gd DV 55) (f := 1000) _ _ _ _ ?_
          refine R.F_have 3 #[true, true, true, true, true, true, true, true, true, true, true, true, true, true, true, false, false, false] (fun aJ W => ∃ gb ge, aJ = { tmps := #[.slice (some ⟨b, o, none⟩) n cap, .int .i64 (k : Int), undef, undef, .string { data := #[] }, .int .i64 0, .pointer (some ⟨gd, 0, none⟩), .string A, .int .i64 (j : Int), .string X, .int .i64 (j2 : Int), .slice (some ⟨b, o, none⟩) n cap, .int .i64 (k : Int), .pointer (some ⟨b, o + k * 3, none⟩), .agg DV, .slice (some ⟨W1.heap.size, 0, none⟩) 2 2, .string s0, .int .i64 (k : Int), .int .i64 ((k : Int) + 1), .pointer (some ⟨gd, 1, none⟩), .int .i64 kd, .string s0, .slice (some ⟨w2.heap.size, 0, none⟩) 1 1, .string td, .string s1, .int .i64 (j : Int), .slice (some ⟨b, o, none⟩) n cap, .int .i64 (n : Int), .bool true, .bool true, .slice (some ⟨b, o, none⟩) n cap, .int .i64 (j : Int), .pointer (some ⟨b, o + j * 3, none⟩), .pointer (some ⟨b, o + j * 3, none⟩), .string CP, .pointer (some ⟨gd, 0, none⟩), .string P, .string M, .bool true, .bool true, .tuple #[.string X, .int .i64 (j2 : Int)], .slice (some ⟨b, o, none⟩) n cap, .int .i64 (j : Int), .tuple #[.string X, .int .i64 (j2 : Int)], .string X, .int .i64 (j2 : Int), .string A, .slice (some ⟨b, o, none⟩) n cap, .int .i64 (j : Int), .pointer (some ⟨b, o + j * 3, none⟩), .pointer (some ⟨b, o + j * 3, none⟩), .string CP, .pointer (some ⟨gd, 0, none⟩), .string P, .string M, .slice (some ⟨ge, 0, none⟩) 5 5, .string t1, .string B1, .string X, .string B2, .slice (some ⟨gb, 0, none⟩) 1 1, u61, u62, u63, .bool false, .bool false, undef, undef, undef, undef, undef, undef, .bool false, .bool false, undef, undef, undef, undef, undef, undef, .bool false, .bool false, undef, undef, undef, undef, undef, undef, undef, undef, undef, undef, undef], defers := [] } ∧ Bx w gd DV 55 W ∧ W.heap[gb]? = some (.cells (sRow [tClose]) 9 (0, 0))) ?_ ?_
          · rintro aJ wj ⟨gb, ge, rfl, Hj, R0⟩
            refine R.rdy [15] (R.rcl (some 61) 31 #[.tmp 60] #[34] #[.slice (some ⟨gb, 0, none⟩) 1 1] en31 _ (HTc.out _ _ R0) ?_ R.ReadyF.nil)
            rintro v wq ⟨he, hb⟩
            cases he
            have Hq := Hj.below hb
            clear hb
            refine ⟨Hq, ?_⟩
            simp only [Act.put, List.setIfInBounds_toArray, List.set_cons_succ, List.set_cons_zero]
            refine R.tkG 16 (some 62) (.binOp .add 9 (.tmp 59) (.tmp 61) 9) none (.string B3) (fun o ho w2 hw => exec_addS (.tmp 59) (.tmp 61) ho B2 cl B3 (by omega) b3e rfl rfl w2) Hq ?_
            simp only [Act.put, List.setIfInBounds_toArray, List.set_cons_succ, List.set_cons_zero]
            refine R.tkG 17 (some 7) (.assign (.tmp 62)) none (.string B3) (fun o ho w2 hw => by unfold execOp; rw [ho]; go_simp) Hq ?_
            simp only [Act.put, List.setIfInBounds_toArray, List.set_cons_succ, List.set_cons_zero]
            refine R.AnyF.done (by kernel_rfl) ?_ _
            exact R.nrm_intro ⟨gb, ge, rfl, Hq⟩
          intro J3
          refine R.F_have 6 #[true, true, true, true, true, true, true, true, true, true, false, false, true, false, true, false, false, false] (fun aJ W => ∃ gb ge, aJ = { tmps := #[.slice (some ⟨b, o, none⟩) n cap, .int .i64 (k : Int), undef, undef, .string { data := #[] }, .int .i64 0, .pointer (some ⟨gd, 0, none⟩), .string A, .int .i64 (j : Int), .string X, .int .i64 (j2 : Int), .slice (some ⟨b, o, none⟩) n cap, .int .i64 (k : Int), .pointer (some ⟨b, o + k * 3, none⟩), .agg DV, .slice (some ⟨W1.heap.size, 0, none⟩) 2 2, .string s0, .int .i64 (k : Int), .int .i64 ((k : Int) + 1), .pointer (some ⟨gd, 1, none⟩), .int .i64 kd, .string s0, .slice (some ⟨w2.heap.size, 0, none⟩) 1 1, .string td, .string s1, .int .i64 (j : Int), .slice (some ⟨b, o, none⟩) n cap, .int .i64 (n : Int), .bool true, .bool true, .slice (some ⟨b, o, none⟩) n cap, .int .i64 (j : Int), .pointer (some ⟨b, o + j * 3, none⟩), .pointer (some ⟨b, o + j * 3, none⟩), .string CP, .pointer (some ⟨gd, 0, none⟩), .string P, .string M, .bool true, .bool true, .tuple #[.string X, .int .i64 (j2 : Int)], .slice (some ⟨b, o, none⟩) n cap, .int .i64 (j : Int), .tuple #[.string X, .int .i64 (j2 : Int)], .string X, .int .i64 (j2 : Int), .string A, .slice (some ⟨b, o, none⟩) n cap, .int .i64 (j : Int), .pointer (some ⟨b, o + j * 3, none⟩), .pointer (some ⟨b, o + j * 3, none⟩), .string CP, .pointer (some ⟨gd, 0, none⟩), .string P, .string M, .slice (some ⟨ge, 0, none⟩) 5 5, u56, u57, .string X, u59, .slice (some ⟨gb, 0, none⟩) 1 1, u61, u62, u63, .bool false, .bool false, undef, undef, undef, undef, undef, undef, .bool false, .bool false, undef, undef, undef, undef, undef, undef, .bool false, .bool false, undef, undef, undef, undef, undef, undef, undef, undef, undef, undef, undef], defers := [] } ∧ Bx w gd DV 55 W ∧ W.heap[gb]? = some (.cells (sRow [tClose]) 9 (0, 0)) ∧ W.heap[ge]? = some (.cells (sRow [tEntry, tOpen, tName, nameL c.path d.path, tNode]) 9 (0, 0))) ?_ ?_
          · rintro aJ wj ⟨gb, ge, rfl, Hj, R0, R1⟩
            refine R.rdy [10] (R.rcl (some 56) 31 #[.tmp 55] #[34] #[.slice (some ⟨ge, 0, none⟩) 5 5] en31 _ (HEn.out _ _ R1) ?_ R.ReadyF.nil)
            rintro v wq ⟨he, hb⟩
            cases he
            have Hq := Hj.below hb
            have Rq := row_below R0 hb
            clear hb
            refine ⟨Hq, ?_⟩
            simp only [Act.put, List.setIfInBounds_toArray, List.set_cons_succ, List.set_cons_zero]
            refine R.tkG 11 (some 57) (.binOp .add 9 (.tmp 46) (.tmp 56) 9) none (.string B1) (fun o ho w2 hw => exec_addS (.tmp 46) (.tmp 56) ho A t1 B1 (by omega) b1e rfl rfl w2) Hq ?_
            simp only [Act.put, List.setIfInBounds_toArray, List.set_cons_succ, List.set_cons_zero]
            refine R.tkG 13 (some 59) (.binOp .add 9 (.tmp 57) (.tmp 58) 9) none (.string B2) (fun o ho w2 hw => exec_addS (.tmp 57) (.tmp 58) ho B1 X B2 (by omega) b2e rfl rfl w2) Hq ?_
            simp only [Act.put, List.setIfInBounds_toArray, List.set_cons_succ, List.set_cons_zero]
            exact R.F_to (by kernel_rfl) (by kernel_rfl) (J3 _ _ ⟨gb, ge, rfl, Hq, Rq⟩)
          intro J2
          refine R.F_have 7 #[true, true, true, true, true, true, true, true, true, false, false, false, true, false, true, false, false, false] (fun aJ W => ∃ gb, aJ = { tmps := #[.slice (some ⟨b, o, none⟩) n cap, .int .i64 (k : Int), undef, undef, .string { data := #[] }, .int .i64 0, .pointer (some ⟨gd, 0, none⟩), .string A, .int .i64 (j : Int), .string X, .int .i64 (j2 : Int), .slice (some ⟨b, o, none⟩) n cap, .int .i64 (k : Int), .pointer (some ⟨b, o + k * 3, none⟩), .agg DV, .slice (some ⟨W1.heap.size, 0, none⟩) 2 2, .string s0, .int .i64 (k : Int), .int .i64 ((k : Int) + 1), .pointer (some ⟨gd, 1, none⟩), .int .i64 kd, .string s0, .slice (some ⟨w2.heap.size, 0, none⟩) 1 1, .string td, .string s1, .int .i64 (j : Int), .slice (some ⟨b, o, none⟩) n cap, .int .i64 (n : Int), .bool true, .bool true, .slice (some ⟨b, o, none⟩) n cap, .int .i64 (j : Int), .pointer (some ⟨b, o + j * 3, none⟩), .pointer (some ⟨b, o + j * 3, none⟩), .string CP, .pointer (some ⟨gd, 0, none⟩), .string P, .string M, .bool true, .bool true, .tuple #[.string X, .int .i64 (j2 : Int)], .slice (some ⟨b, o, none⟩) n cap, .int .i64 (j : Int), .tuple #[.string X, .int .i64 (j2 : Int)], .string X, .int .i64 (j2 : Int), .string A, .slice (some ⟨b, o, none⟩) n cap, .int .i64 (j : Int), .pointer (some ⟨b, o + j * 3, none⟩), .pointer (some ⟨b, o + j * 3, none⟩), .string CP, .pointer (some ⟨gd, 0, none⟩), .string P, .string M, u55, u56, u57, .string X, u59, .slice (some ⟨gb, 0, none⟩) 1 1, u61, u62, u63, .bool false, .bool false, undef, undef, undef, undef, undef, undef, .bool false, .bool false, undef, undef, undef, undef, undef, undef, .bool false, .bool false, undef, undef, undef, undef, undef, undef, undef, undef, undef, undef, undef], defers := [] } ∧ Bx w gd DV 55 W ∧ W.heap[gb]? = some (.cells (sRow [tClose]) 9 (0, 0))) ?_ ?_
          · rintro aJ wj ⟨gb, rfl, Hj, R0⟩
            refine R.rdy [9] (R.ReadyF.op (w2 := wj.alloc (.cells (sRow [tEntry, tOpen, tName, nameL c.path d.path, tNode]) 9)) (some 55) (.buildSlice 34 5 #[(0, .const (.string { data := #[101, 110, 116, 114, 121] })), (1, .const (.string { data := #[40] })), (2, .const (.string { data := #[110, 97, 109, 101] })), (3, .tmp 54), (4, .const (.string { data := #[110, 111, 100, 101] }))]) rfl (.slice (some ⟨wj.heap.size, 0, none⟩) 5 5) (fun o ho => exec_bs5 wj _ _ _ _ _ ho tEntry tOpen tName (nameL c.path d.path) tNode rfl rfl rfl (by show Value.string M = _; rw [hM.out]; rfl) rfl) (Hj.alloc _) ?_ R.ReadyF.nil)
            simp only [Act.put, List.setIfInBounds_toArray, List.set_cons_succ, List.set_cons_zero]
            exact R.F_to (by kernel_rfl) (by kernel_rfl) (J2 _ _ ⟨gb, wj.heap.size, rfl, Hj.alloc _, row_alloc R0 _, row_new wj _ 9⟩)
          intro J1
          refine R.F_have 8 #[true, true, true, true, true, true, true, true, false, false, false, false, true, false, true, false, false, false] (fun aJ W => ∃ gb, aJ = { tmps := #[.slice (some ⟨b, o, none⟩) n cap, .int .i64 (k : Int), undef, undef, .string { data := #[] }, .int .i64 0, .pointer (some ⟨gd, 0, none⟩), .string A, .int .i64 (j : Int), .string X, .int .i64 (j2 : Int), .slice (some ⟨b, o, none⟩) n cap, .int .i64 (k : Int), .pointer (some ⟨b, o + k * 3, none⟩), .agg DV, .slice (some ⟨W1.heap.size, 0, none⟩) 2 2, .string s0, .int .i64 (k : Int), .int .i64 ((k : Int) + 1), .pointer (some ⟨gd, 1, none⟩), .int .i64 kd, .string s0, .slice (some ⟨w2.heap.size, 0, none⟩) 1 1, .string td, .string s1, .int .i64 (j : Int), .slice (some ⟨b, o, none⟩) n cap, .int .i64 (n : Int), .bool true, .bool true, .slice (some ⟨b, o, none⟩) n cap, .int .i64 (j : Int), .pointer (some ⟨b, o + j * 3, none⟩), .pointer (some ⟨b, o + j * 3, none⟩), .string CP, .pointer (some ⟨gd, 0, none⟩), .string P, .string M, .bool true, .bool true, .tuple #[.string X, .int .i64 (j2 : Int)], .slice (some ⟨b, o, none⟩) n cap, .int .i64 (j : Int), .tuple #[.string X, .int .i64 (j2 : Int)], .string X, .int .i64 (j2 : Int), .string A, .slice (some ⟨b, o, none⟩) n cap, .int .i64 (j : Int), .pointer (some ⟨b, o + j * 3, none⟩), .pointer (some ⟨b, o + j * 3, none⟩), .string CP, .pointer (some ⟨gd, 0, none⟩), .string P, u54, u55, u56, u57, .string X, u59, .slice (some ⟨gb, 0, none⟩) 1 1, u61, u62, u63, .bool false, .bool false, undef, undef, undef, undef, undef, undef, .bool false, .bool false, undef, undef, undef, undef, undef, undef, .bool false, .bool false, undef, undef, undef, undef, undef, undef, undef, undef, undef, undef, undef], defers := [] } ∧ Bx w gd DV 55 W ∧ W.heap[gb]? = some (.cells (sRow [tClose]) 9 (0, 0))) ?_ ?_
          · rintro aJ wj ⟨gb, rfl, Hj, R0⟩
            refine R.rdy [8] (R.rcl (some 54) 45 #[.tmp 51, .tmp 53] #[9, 9] #[.string CP, .string P] en49 _ (HC.out _) ?_ R.ReadyF.nil)
            rintro v wq ⟨he, rfl⟩
            cases he
            refine ⟨Hj, ?_⟩
            simp only [Act.put, List.setIfInBounds_toArray, List.set_cons_succ, List.set_cons_zero]
            exact R.F_to (by kernel_rfl) (by kernel_rfl) (J1 _ _ ⟨gb, rfl, Hj, R0⟩)
          intro J0
          refine R.tkG 0 (some 46) (.move (.tmp 7)) none (.string A) (fun o ho w2 hw => by unfold execOp; rw [ho]; go_simp) HDr.out ?_
          simp only [Act.put, List.setIfInBounds_toArray, List.set_cons_succ, List.set_cons_zero]
          refine R.tkG 1 (some 47) (.move (.tmp 0)) none (.slice (some ⟨b, o, none⟩) n cap) (fun o ho w2 hw => by unfold execOp; rw [ho]; go_simp) HDr.out ?_
          simp only [Act.put, List.setIfInBounds_toArray, List.set_cons_succ, List.set_cons_zero]
          refine R.tkG 2 (some 48) (.move (.tmp 8)) none (.int .i64 (j : Int)) (fun o ho w2 hw => by unfold execOp; rw [ho]; go_simp) HDr.out ?_
          simp only [Act.put, List.setIfInBounds_toArray, List.set_cons_succ, List.set_cons_zero]
          refine R.tkG 3 (some 49) (.indexAddr 23 (.tmp 47) (.tmp 48)) none (.pointer (some ⟨b, o + j * 3, none⟩)) (fun o ho w2 hw => by unfold execOp; rw [ho]; go_simp) HDr.out ?_
          simp only [Act.put, List.setIfInBounds_toArray, List.set_cons_succ, List.set_cons_zero]
          refine R.tkG 4 (some 50) (.fieldAddr 55 (.tmp 49) 0) none (.pointer (some ⟨b, o + j * 3, none⟩)) (fun o ho w2 hw => by unfold execOp; rw [ho]; go_simp) HDr.out ?_
          simp only [Act.put, List.setIfInBounds_toArray, List.set_cons_succ, List.set_cons_zero]
          refine R.tkG 5 (some 51) (.load 9 (.tmp 50)) none (.string CP) (fun o ho w2 hw => by have q := ((HN.out.below (W2 := w2) hw.1).2 j hjl).1; rw [← hc.out, hCPV.out] at q; unfold execOp; rw [ho]; go_simp) HDr.out ?_
          simp only [Act.put, List.setIfInBounds_toArray, List.set_cons_succ, List.set_cons_zero]
          refine R.tkG 6 (some 52) (.fieldAddr 55 (.tmp 6) 0) none (.pointer (some ⟨gd, 0, none⟩)) (fun o ho w2 hw => by unfold execOp; rw [ho]; go_simp) HDr.out ?_
          simp only [Act.put, List.setIfInBounds_toArray, List.set_cons_succ, List.set_cons_zero]
          refine R.tkG 7 (some 53) (.load 9 (.tmp 52)) none (.string P) (fun o ho w2 hw => by have q := hw.cell 0 (.string P) (by rw [hDV.out]; rfl); unfold execOp; rw [ho]; go_simp) HDr.out ?_
          simp only [Act.put, List.setIfInBounds_toArray, List.set_cons_succ, List.set_cons_zero]
          refine R.tkG 12 (some 58) (.move (.tmp 9)) none (.string X) (fun o ho w2 hw => by unfold execOp; rw [ho]; go_simp) HDr.out ?_
          simp only [Act.put, List.setIfInBounds_toArray, List.set_cons_succ, List.set_cons_zero]
          refine R.rdy [8, 14] (R.rcl (some 54) 45 #[.tmp 51, .tmp 53] #[9, 9] #[.string CP, .string P] en49 _ (HC.out _) ?_ (R.ReadyF.op (w2 := wd.alloc (.cells (sRow [tClose]) 9)) (some 60) (.buildSlice 34 1 #[(0, .const (.string { data := #[41] }))]) rfl (.slice (some ⟨wd.heap.size, 0, none⟩) 1 1) (fun o ho => exec_bs1 wd _ ho tClose rfl) (HDr.out.alloc _) ?_ R.ReadyF.nil))
          rotate_left
          · simp only [Act.put, List.setIfInBounds_toArray, List.set_cons_succ, List.set_cons_zero]
            exact R.F_to (by kernel_rfl) (by kernel_rfl) (J0 _ _ ⟨wd.heap.size, rfl, HDr.out.alloc _, row_new wd _ 9⟩)
          rintro v wq ⟨he, rfl⟩
          cases he
          refine ⟨HDr.out, ?_⟩
          simp only [Act.put, List.setIfInBounds_toArray, List.set_cons_succ, List.set_cons_zero]
          refine R.rdy [9, 14] (R.ReadyF.op (w2 := wq.alloc (.cells (sRow [tEntry, tOpen, tName, nameL c.path d.path, tNode]) 9)) (some 55) (.buildSlice 34 5 #[(0, .const (.string { data := #[101, 110, 116, 114, 121] })), (1, .const (.string { data := #[40] })), (2, .const (.string { data := #[110, 97, 109, 101] })), (3, .tmp 54), (4, .const (.string { data := #[110, 111, 100, 101] }))]) rfl (.slice (some ⟨wq.heap.size, 0, none⟩) 5 5) (fun o ho => exec_bs5 wq _ _ _ _ _ ho tEntry tOpen tName (nameL c.path d.path) tNode rfl rfl rfl (by show Value.string M = _; rw [hM.out]; rfl) rfl) (HDr.out.alloc _) ?_ (R.ReadyF.op (w2 := wq.alloc (.cells (sRow [tClose]) 9)) (some 60) (.buildSlice 34 1 #[(0, .const (.string { data := #[41] }))]) rfl (.slice (some ⟨wq.heap.size, 0, none⟩) 1 1) (fun o ho => exec_bs1 wq _ ho tClose rfl) (HDr.out.alloc _) ?_ R.ReadyF.nil))
          rotate_left
          · simp only [Act.put, List.setIfInBounds_toArray, List.set_cons_succ, List.set_cons_zero]
            exact R.F_to (by kernel_rfl) (by kernel_rfl) (J1 _ _ ⟨wq.heap.size, rfl, HDr.out.alloc _, row_new wq _ 9⟩)
          simp only [Act.put, List.setIfInBounds_toArray, List.set_cons_succ, List.set_cons_zero]
          have H9 := HDr.out.alloc (.cells (sRow [tEntry, tOpen, tName, nameL c.path d.path, tNode]) 9)
          have R9 := row_new wq (sRow [tEntry, tOpen, tName, nameL c.path d.path, tNode]) 9
          generalize wq.alloc (.cells (sRow [tEntry, tOpen, tName, nameL c.path d.path, tNode]) 9) = w9 at *
          generalize wq.heap.size = g9 at *
          refine R.rdy [10, 14] (R.rcl (some 56) 31 #[.tmp 55] #[34] #[.slice (some ⟨g9, 0, none⟩) 5 5] en31 _ (HEn.out _ _ R9) ?_ (R.ReadyF.op (w2 := w9.alloc (.cells (sRow [tClose]) 9)) (some 60) (.buildSlice 34 1 #[(0, .const (.string { data := #[41] }))]) rfl (.slice (some ⟨w9.heap.size, 0, none⟩) 1 1) (fun o ho => exec_bs1 w9 _ ho tClose rfl) (H9.alloc _) ?_ R.ReadyF.nil))
          rotate_left
          · simp only [Act.put, List.setIfInBounds_toArray, List.set_cons_succ, List.set_cons_zero]
            exact R.F_to (by kernel_rfl) (by kernel_rfl) (J2 _ _ ⟨w9.heap.size, g9, rfl, H9.alloc _, row_new w9 _ 9, row_alloc R9 _⟩)
          rintro v wr2 ⟨he, hb⟩
          cases he
          have H10 := H9.below hb
          clear hb
          refine ⟨H10, ?_⟩
          simp only [Act.put, List.setIfInBounds_toArray, List.set_cons_succ, List.set_cons_zero]
          refine R.tkG 11 (some 57) (.binOp .add 9 (.tmp 46) (.tmp 56) 9) none (.string B1) (fun o ho w2 hw => exec_addS (.tmp 46) (.tmp 56) ho A t1 B1 (by omega) b1e rfl rfl w2) H10 ?_
          simp only [Act.put, List.setIfInBounds_toArray, List.set_cons_succ, List.set_cons_zero]
          refine R.tkG 13 (some 59) (.binOp .add 9 (.tmp 57) (.tmp 58) 9) none (.string B2) (fun o ho w2 hw => exec_addS (.tmp 57) (.tmp 58) ho B1 X B2 (by omega) b2e rfl rfl w2) H10 ?_
          simp only [Act.put, List.setIfInBounds_toArray, List.set_cons_succ, List.set_cons_zero]
          refine R.rdy [14] (R.ReadyF.op (w2 := wr2.alloc (.cells (sRow [tClose]) 9)) (some 60) (.buildSlice 34 1 #[(0, .const (.string { data := #[41] }))]) rfl (.slice (some ⟨wr2.heap.size, 0, none⟩) 1 1) (fun o ho => exec_bs1 wr2 _ ho tClose rfl) (H10.alloc _) ?_ R.ReadyF.nil)
          simp only [Act.put, List.setIfInBounds_toArray, List.set_cons_succ, List.set_cons_zero]
          exact R.F_to (by kernel_rfl) (by kernel_rfl) (J3 _ _ ⟨wr2.heap.size, g9, rfl, H10.alloc _, row_new wr2 _ 9⟩)
        rintro a' w6 ⟨gb, ge, rfl, hk6⟩
        have HX6 := Lib.hid hk6
        have f3 : n - j2 < n - j := by omega
        clear hk6 HX5 hents hnl htot hB3s b1z b2z b3z b4 b5 b6 b1e b2e b3e
        go_wp2_with fail
        go_roundw
        case rel => exact ⟨j2, B3, by omega, f2, rfl, rfl, by rw [hB3L.out, List.append_assoc, List.append_assoc, List.append_assoc]; exact hsplit.out.1, hsplit.out.2.1, HX6.out⟩
        case measure => simp [intOf] <;> omega
    · have hltI : ¬ (j : Int) < (n : Int) := by omega
      have hz := Lib.hid (hlast.out (by rw [List.drop_of_length_le (by have := hn.out; omega), entU_nil]) (by rw [List.drop_of_length_le (by have := hn.out; omega), entU_nil]))
      go_wp2_with fail
      go_quiet (with_reducible exact Calls.quiet_of_same (HC.out _))
      have HXq := Lib.hid (HXr.out.drewN nq)
      generalize wr.drewN nq = wq at *
      go_wp2_with fail
      have hx4 := Lib.hid (HXq.out.alloc (.cells #[.string { data := #[41] }] 9))
      with_reducible refine (HTc.out _ _ (row_new wq _ 9)).mono ?_
      rintro e w4 ⟨rfl, hb⟩
      have HX4 := Lib.hid (hx4.out.below hb)
      clear hb hx4 HTc
      go_wp2_with fail
      exact ⟨rfl, _, results_tmps rfl _ _ _, by rw [hz.out]; rfl, HX4.out.1⟩
theorem node_any (b o cap : Nat) (l : List Nd) (hl : l.length ≤ 100000) (hp : ∀ c ∈ l, c.path.length ≤ 1000000) (hdt : ∀ c ∈ l, c.data.length ≤ 1000000) (hcost : costs l ≤ 100000000000000) : ∀ (m k : Nat), l.length - k ≤ m → (hk : k < l.length) → ∀ w, Nodes w b o l →
    Calls Try.prog 30 #[slV b o l.length cap, .int .i64 (k : Int)] w fun e w' => e = .returned (nodeR l k hk) ∧ Below w.heap.size w w'
  | 0, k, hm, hk => by omega
  | m + 1, k, hm, hk => fun w hN => node_step b o cap l hl hp hdt k hk hcost (fun j hj hjl => node_any b o cap l hl hp hdt hcost m j (by omega) hjl) w hN
end Go.Proofs.Ytglipljilcdboaa
