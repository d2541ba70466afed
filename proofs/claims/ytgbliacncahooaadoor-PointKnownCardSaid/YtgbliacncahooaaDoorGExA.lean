/- Several texts, one behind the other; each says by itself what it proves, and on what conditions. -/
import Derived.Test.YtgbliacncahooaaDoorGOpA
/- Texts, truths, small numbers held against one another; a field of a struct. No condition but what each names. -/
namespace Go.Proofs.YtgbliacncahooaaDoor
open Go.RowKit Go.Shelf
set_option linter.unusedVariables false
set_option linter.unusedSimpArgs false
theorem exec_eq9_same {ρ : Operand → Value} {o : Oper} (x y : Operand) (ho : o.op = .binOp .eql 9 x y 9) (s : ByteArray) (hx : ρ x = .string s) (hy : ρ y = .string s) (w : World) : (execOp ρ o).run Tryd.prog w = .ok (.value (.bool true)) w := by
  unfold execOp
  rw [ho]
  simp only [hx, hy]
  go_simp
theorem exec_eqB {ρ : Operand → Value} {o : Oper} (x y : Operand) (ho : o.op = .binOp .eql 4 x y 4) (b : Bool) (hx : ρ x = .bool b) (hy : ρ y = .bool b) (w : World) : (execOp ρ o).run Tryd.prog w = .ok (.value (.bool true)) w := by
  unfold execOp
  rw [ho]
  simp only [hx, hy]
  go_simp
theorem exec_rem4 {ρ : Operand → Value} {o : Oper} (x : Operand) (ho : o.op = .binOp .rem 5 x (.const (.int .u8 4)) 5) (hc : ρ (.const (.int .u8 4)) = .int .u8 4) (d q : Nat) (hd : Hid (d % 4 = q)) (hx : ρ x = .int .u8 (d : Int)) (w : World) : (execOp ρ o).run Tryd.prog w = .ok (.value (.int .u8 (q : Int))) w := by
  have hq : (d : Int).tmod 4 = (q : Int) := by rw [Int.tmod_eq_emod_of_nonneg (by omega)]; have := hd.out; omega
  have hq2 : (d : Int) % 4 = (q : Int) := by have := hd.out; omega
  have hw : IntKind.u8.wrap (q : Int) = (q : Int) := by rw [wrap8, Nat.mod_eq_of_lt]; have := hd.out; omega
  clear hd
  unfold execOp
  rw [ho]
  simp only [hx, hc]
  go_simp
theorem exec_eq5 {ρ : Operand → Value} {o : Oper} (x y : Operand) (ho : o.op = .binOp .eql 5 x y 5) (d k : Int) (b : Bool) (hb : (d == k) = b) (hx : ρ x = .int .u8 d) (hy : ρ y = .int .u8 k) (w : World) : (execOp ρ o).run Tryd.prog w = .ok (.value (.bool b)) w := by
  unfold execOp
  rw [ho]
  simp only [hx, hy]
  go_simp
theorem field31_lit (a0 a1 a2 a3 a4 a5 a6 a7 b : Value) (w : World) : (Instr.field 31 (.agg #[a0, a1, a2, a3, a4, a5, a6, a7, b]) 0).run Tryd.prog w = .ok (.agg #[a0, a1, a2, a3, a4, a5, a6, a7]) w := by kernel_rfl
theorem field31 {P : Array Value} (hP : IsRw 8 P) (b : Bool) (w : World) : (Instr.field 31 (.agg (P ++ #[.bool b])) 0).run Tryd.prog w = .ok (.agg P) w := by
  obtain ⟨f, rfl⟩ := hP
  exact field31_lit _ _ _ _ _ _ _ _ _ w
theorem exec_fieldV {ρ : Operand → Value} {o : Oper} (s : TypeId) (x : Operand) (k : Nat) (ho : o.op = .field s x k) (v u : Value) (hx : ρ x = v) (w : World) (hr : (Instr.field s v k).run Tryd.prog w = .ok u w) : (execOp ρ o).run Tryd.prog w = .ok (.value u) w := by
  subst hx
  unfold execOp
  simp [ho, hr]
end Go.Proofs.YtgbliacncahooaaDoor
/- Base of package point: the first point. No condition but that it stands in memory. -/
namespace Go.Proofs.YtgbliacncahooaaDoor
open Go.RowKit Go.Shelf
set_option linter.unusedVariables false
set_option linter.unusedSimpArgs false
set_option maxRecDepth 100000 in
set_option maxHeartbeats 2000000 in
theorem base_any (w : World) (hG0 : Glob w) :
    Calls Tryd.prog 15 #[] w fun e w' => e = .returned (.agg (num baseN.1 ++ num baseN.2)) ∧ Below w.heap.size w w' := by
  have HG := Lib.hid hG0
  obtain ⟨ZR1, hZR1⟩ : ∃ zz9, Hid (zz9 = (rowOf .u64 8 (fun _ => 0)).toArray) := ⟨_, Lib.hid rfl⟩
  have SZZR1 : ZR1.size = 8 := by rw [hZR1.out]; rfl
  obtain ⟨NN2, hNN2⟩ : ∃ zz9, Hid (zz9 = num (baseN.1)) := ⟨_, Lib.hid rfl⟩
  have INN2 : IsNum NN2 := by rw [hNN2.out]; exact isNum _
  obtain ⟨NN3, hNN3⟩ : ∃ zz9, Hid (zz9 = num (baseN.2)) := ⟨_, Lib.hid rfl⟩
  have INN3 : IsNum NN3 := by rw [hNN3.out]; exact isNum _
  obtain ⟨PP4, hPP4⟩ : ∃ zz9, Hid (zz9 = NN2 ++ NN3) := ⟨_, Lib.hid rfl⟩
  have IPP4 : IsRw 8 PP4 := by rw [hPP4.out]; exact rw_app (isRw4 INN2) (isRw4 INN3)
  have SPP4_0 : Part PP4 0 NN2 := by rw [hPP4.out]; exact part_left 0 (part_all NN2) NN3
  have SPP4_4 : Part PP4 4 NN3 := by rw [hPP4.out]; exact part_right (NN2) NN3 4 (by simp [INN2.size])
  have HZ26 : ∀ w, (zeroValue 26).run Tryd.prog w = .ok (.agg ZR1) w := by rw [hZR1.out]; exact zeroT26
  have LB : ∀ W, Below w.heap.size w W → (loadVar 26 ⟨1, 0, none⟩).run Tryd.prog W = .ok (.agg PP4) W := fun W hb => by rw [hPP4.out, hNN2.out, hNN3.out]; exact base_load (HG.out.below hb)
  try simp only [← hNN2.out, ← hNN3.out] at  ⊢
  try simp only [← hZR1.out, ← hPP4.out] at  ⊢
  clear hZR1 hNN2 hNN3 hPP4 hG0
  go_enter Tryd.func15, Tryd.ntmps15
  have HS : Hid (Kt w [] w) := Lib.hid (Kt.nil w)
  go_upto_region 0 with fail
  refine wp_region_list ?_
  refine wpList_run rfl _ (exec_alloc_agg _ 26 rfl _ (HZ26 _)) ?_
  simp only [Act.put, List.setIfInBounds_toArray, List.set_cons_succ, List.set_cons_zero]
  have bg3 := HS.out.1.size
  have HS2 := Lib.hid (HS.out.new ZR1 26)
  clear HS
  generalize w.alloc (.cells ZR1 26) = w1 at *
  refine wpList_nil ?_
  go_upto_region 1 with fail
  refine wp_region_list ?_
  refine wpList_run rfl (.agg PP4) (exec_load_of _ 26 (.global 1) rfl ⟨1, 0, none⟩ rfl _ (LB _ (HS2.out.1))) ?_
  simp only [Act.put, List.setIfInBounds_toArray, List.set_cons_succ, List.set_cons_zero]
  refine wpList_run0 rfl (exec_storeT26 _ (.tmp 0) (.tmp 1) rfl (w.heap.size) rfl PP4 IPP4 rfl ZR1 26 (HS2.out.get (w.heap.size) ZR1 26 (by simp)) SZZR1) ?_
  simp only [Act.put, List.setIfInBounds_toArray, List.set_cons_succ, List.set_cons_zero]
  have HS5 : Hid (Kt w [(w.heap.size, PP4, 26)] (w1.setRow (w.heap.size) PP4)) := Lib.hid (HS2.out.set (w.heap.size) PP4 ZR1 26 (HS2.out.get (w.heap.size) ZR1 26 (by simp)) (by omega) (fun p hp => by simp at hp; subst hp; exact .inl rfl))
  clear HS2
  generalize w1.setRow (w.heap.size) PP4 = w4 at *
  refine wpList_nil ?_
  go_wp2
  exact bodyPost_ret (results_cell rfl _ _ _ ⟨w.heap.size, 0, none⟩ rfl _ (loadT26 IPP4 (HS5.out.get (w.heap.size) PP4 26 (by simp)))) rfl ⟨rfl, HS5.out.1⟩
end Go.Proofs.YtgbliacncahooaaDoor
