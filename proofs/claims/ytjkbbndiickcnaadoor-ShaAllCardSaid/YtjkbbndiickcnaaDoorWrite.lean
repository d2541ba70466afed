/- What Write of package sha does to a state that lies in memory. -/
import Derived.Test.YtjkbbndiickcnaaDoorState
import Derived.Test.YtjkbbndiickcnaaDoorBehind
namespace Go.Proofs.YtjkbbndiickcnaaDoor
open Go.RowKit
set_option linter.unusedVariables false

theorem take_ok (b : Nat) (st : St) (hst : st.ok) (rb : List UInt8) (n : Nat) (s : ByteArray) (hs : s.size ≤ 1000000) (w : World) (hG : Glob w) (hb2 : 2 ≤ b)
    (hc : w.heap[b]? = some (.cells (stCells (cells st) (bytesV rb) n).toArray 42 (0, 0))) :
    Calls Tryd.prog 23 #[.pointer (some ⟨b, 0, none⟩), .string s] w fun e w' => (∃ v, e = .returned v) ∧ Fr (fun k => k = b) w w' ∧ w'.heap[b]? = some (.cells (stCells (cells (mids st s.data.toList (s.size / 64))) (bytesV rb) n).toArray 42 (0, 0)) :=
  take_any b st hst _ s (by omega) w hG hb2 hc (Lib.hid fun s hs blk hb w hG => behind_any s hs blk hb w hG)

theorem run_slice40 (b h : Nat) (hh : h < 64) (w : World) : (Instr.sliceAt 40 (.pointer (some ⟨b, 8, none⟩)) (some (.int .i64 h)) none none).run Tryd.prog w = .ok (.slice (some ⟨b, 8 + h, none⟩) (64 - h) (64 - h)) w := by
  have h1 := run_sliceAt_array_l (P := Tryd.prog) (w := w) (a := ⟨b, 8, none⟩) (t := 40) (by kernel_rfl) .i64 (h : Int) (by omega) (by show (h : Int) ≤ 64; omega)
  have h2 : (sizeOf (Tryd.prog.elem 40)).run Tryd.prog w = .ok 1 w := by kernel_rfl
  have h3 : Tryd.prog.arrayLen 40 = 64 := by kernel_rfl
  rw [h1, h2, h3]
  simp only [Result.andThen_ok, slicedAt, Int.toNat_natCast]
  rw [if_neg (by omega), addr_add, Nat.mul_one]
theorem exec_slice40 {ρ : Operand → Value} {o : Oper} (x y : Operand) (ho : o.op = .slice 40 x (some y) none none) (b h : Nat) (hh : h < 64) (hx : ρ x = .pointer (some ⟨b, 8, none⟩)) (hy : ρ y = .int .i64 h) (w : World) :
    (execOp ρ o).run Tryd.prog w = .ok (.value (.slice (some ⟨b, 8 + h, none⟩) (64 - h) (64 - h))) w := by
  unfold execOp
  simp [ho, hx, hy, run_slice40 b h hh w]
theorem exec_fieldAddr42_1 {ρ : Operand → Value} {o : Oper} (x : Operand) (ho : o.op = .fieldAddr 42 x 1) (b : Nat) (hx : ρ x = .pointer (some ⟨b, 0, none⟩)) (w : World) : (execOp ρ o).run Tryd.prog w = .ok (.value (.pointer (some ⟨b, 8, none⟩))) w := by
  unfold execOp
  simp [ho, hx, go_sem]
theorem exec_slice40_all {ρ : Operand → Value} {o : Oper} (x : Operand) (ho : o.op = .slice 40 x none none none) (b : Nat) (hx : ρ x = .pointer (some ⟨b, 8, none⟩)) (w : World) :
    (execOp ρ o).run Tryd.prog w = .ok (.value (.slice (some ⟨b, 8, none⟩) 64 64)) w := by
  have h2 : (sizeOf (Tryd.prog.elem 40)).run Tryd.prog w = .ok 1 w := by kernel_rfl
  have h3 : Tryd.prog.arrayLen 40 = 64 := by kernel_rfl
  have h1 := run_sliceAt_array_all (P := Tryd.prog) (w := w) (a := ⟨b, 8, none⟩) (t := 40) (by kernel_rfl)
  rw [h2, h3] at h1
  simp only [Result.andThen_ok, slicedAt] at h1
  rw [if_neg (by omega), addr_add] at h1
  unfold execOp
  simp [ho, hx, h1]
theorem exec_len9 {ρ : Operand → Value} {o : Oper} (x : Operand) (ho : o.op = .call { callee := .builtin .len, args := #[x], argTypes := #[9] }) (s : ByteArray) (hx : ρ x = .string s) (w : World) : (execOp ρ o).run Tryd.prog w = .ok (.value (.int .i64 s.size)) w := by
  unfold execOp
  simp [ho, hx, go_sem]
theorem exec_rem64 {ρ : Operand → Value} {o : Oper} (x : Operand) (ho : o.op = .binOp .rem 3 x (.const (.int .i64 64)) 3) (hc : ρ (.const (.int .i64 64)) = .int .i64 64) (n : Nat) (hn : n ≤ 9223372036854775807) (hx : ρ x = .int .i64 n) (w : World) : (execOp ρ o).run Tryd.prog w = .ok (.value (.int .i64 ((n % 64 : Nat) : Int))) w := by
  have h0 : (0 : Int) ≤ (n : Int) := by omega
  unfold execOp
  simp only [ho, hx, hc]
  go_simp
  exact Int.tmod_eq_emod_of_nonneg h0
theorem exec_subk {ρ : Operand → Value} {o : Oper} (x y : Operand) (ho : o.op = .binOp .sub 3 x y 3) (n m : Nat) (hn : n ≤ 9223372036854775807) (hm : m ≤ n) (hx : ρ x = .int .i64 n) (hy : ρ y = .int .i64 m) (w : World) : (execOp ρ o).run Tryd.prog w = .ok (.value (.int .i64 ((n - m : Nat) : Int))) w := by
  have h0 : IntKind.i64.wrap ((n : Int) - (m : Int)) = ((n - m : Nat) : Int) := by rw [IntWalk.i64_in _ (by omega)]; omega
  unfold execOp
  simp only [ho, hx, hy]
  go_simp
theorem exec_sliceFrom {ρ : Operand → Value} {o : Oper} (x y : Operand) (ho : o.op = .slice 9 x (some y) none none) (s : ByteArray) (q : Nat) (hq : q ≤ s.size) (hx : ρ x = .string s) (hy : ρ y = .int .i64 q) (w : World) : (execOp ρ o).run Tryd.prog w = .ok (.value (.string (s.extract q s.size))) w := by
  have h1 : (q : Int) ≤ (s.size : Int) := by omega
  unfold execOp
  simp only [ho, hx, hy]
  go_simp
set_option maxRecDepth 100000 in
set_option maxHeartbeats 1000000 in
theorem write_short {w : World} {b : Nat} (e : St) (rb : List UInt8) (n : Nat) (s : ByteArray) (hr : rb.length = 64) (hn : n ≤ 1000000) (hs : s.size ≤ 1000000) (h0 : 0 < n % 64) (hlt : n % 64 + s.size < 64)
    (hc : w.heap[b]? = some (.cells (stCells (cells e) (bytesV rb) n).toArray 42 (0, 0))) :
    Calls Tryd.prog 14 #[.pointer (some ⟨b, 0, none⟩), .string s] w fun e0 w' => (∃ v, e0 = .returned v) ∧ Fr (fun k => k = b) w w' ∧ w'.heap[b]? = some (.cells (stCells (cells e) (bytesV (over rb (n % 64) s.data.toList)) (n + s.size)).toArray 42 (0, 0)) := by
  have c72 : w.cell? ⟨b, 72, none⟩ = some (.int .i64 n) := by rw [cell_of_row _ _ _ _ _ _ hc, List.getElem?_toArray]; exact stCells_n e rb n hr
  have f72 : w.frozen? ⟨b, 72, none⟩ = false := by simp [World.frozen?, hc]
  have hne : ((n : Int) == 0) = false := by rw [beq_eq_false_iff_ne]; omega
  have hm : Hid ((n : Int) % 64 = ((n % 64 : Nat) : Int)) := Lib.hid (by omega)
  have hpos : (0 : Int) < (n : Int) % 64 := by omega
  have hpos2 : decide ((0 : Int) < (n : Int) % 64) = true := by simp; omega
  have hl1 : (n : Int) % 64 + (s.size : Int) < 64 := by omega
  have hl2 : decide ((n : Int) % 64 + (s.size : Int) < 64) = true := by simp; omega
  have HR2 : Hid ((w.setCell ⟨b, 72, none⟩ (.int .i64 ((n : Int) + (s.size : Int)))).heap[b]? = some (.cells (stCells (cells e) (bytesV rb) (n + s.size)).toArray 42 (0, 0))) := by
    unfold Hid
    rw [heap_setCell_same w b 72 _ 42 _ hc, ← stCells_setN e rb n (n + s.size) hr]
    rfl
  have hk : Hid (s.size = min s.size (64 - n % 64)) := Lib.hid (by omega)
  have hfit : Hid (8 + n % 64 + s.size ≤ (stCells (cells e) (bytesV rb) (n + s.size)).toArray.size) := by unfold Hid; rw [List.size_toArray, stCells_len e rb _ hr]; omega
  have hh64 : Hid (n % 64 < 64) := Lib.hid (by omega)
  have hov : Hid (splice (stCells (cells e) (bytesV rb) (n + s.size)).toArray (8 + n % 64) (bytesV (s.data.toList.take s.size)) = (stCells (cells e) (bytesV (over rb (n % 64) s.data.toList)) (n + s.size)).toArray) := by
    unfold Hid
    rw [List.take_of_length_le (by exact Nat.le_refl _)]
    exact stCells_over e rb _ _ _ hr (by show n % 64 + s.size ≤ 64; omega)
  have hcw := Lib.hid hc
  clear hc h0 hlt hr
  go_enter Tryd.func14, Tryd.ntmps14
  go_wp2_with (first | (refine wpList_run rfl _ (exec_slice40 (.tmp 35) (.tmp 36) rfl b (n % 64) hh64.out rfl (congrArg (Value.int .i64) hm.out) _) ?_) | (refine wpList_run rfl _ (exec_copy_any _ (.tmp 37) (.tmp 38) 30 9 5 rfl b (8 + n % 64) (64 - n % 64) (64 - n % 64) s s.size hk.out _ 42 rfl rfl Tryd.underlying30 size5 HR2.out hfit.out) ?_))
  refine bodyPost_ret (results_none rfl _ _ _) rfl ?_
  refine ⟨⟨_, rfl⟩, Fr.setRow (S := fun k => k = b) (Fr.setCell (S := fun k => k = b) (p := ⟨b, 72, none⟩) (Fr.refl _ w) rfl _) rfl _, ?_⟩
  rw [setRow_heap _ _ _ _ _ _ HR2.out, hov.out]
theorem extract_drop (s : ByteArray) : (s.extract (s.size - s.size % 64) s.size).data.toList.take (s.size % 64) = s.data.toList.drop (64 * (s.size / 64)) := by
  rw [ByteArray.data_extract, Array.toList_extract, List.extract_eq_take_drop, List.take_take, show s.size - (s.size - s.size % 64) = s.size % 64 by omega, Nat.min_self, show s.size - s.size % 64 = 64 * (s.size / 64) by omega]
  exact List.take_of_length_le (by rw [List.length_drop]; show s.size - _ ≤ _; omega)
theorem glob_fr {w w' : World} {b : Nat} (hG : Glob w) (hb : 2 ≤ b) (hf : Fr (fun k => k = b) w w') : Glob w' := by
  have h2 := hG.two
  exact ⟨by rw [hf.block 0 (by omega) (by omega)]; exact hG.1, by rw [hf.block 1 (by omega) (by omega)]; exact hG.2⟩

set_option maxRecDepth 100000 in
set_option maxHeartbeats 1000000 in
theorem write_zero {w : World} {b : Nat} (e : St) (he : e.ok) (rb : List UInt8) (n : Nat) (s : ByteArray) (hr : rb.length = 64) (hn : n ≤ 1000000) (hs : s.size ≤ 1000000) (h0 : n % 64 = 0) (hn0 : n ≠ 0) (hG : Glob w) (hb2 : 2 ≤ b)
    (hc : w.heap[b]? = some (.cells (stCells (cells e) (bytesV rb) n).toArray 42 (0, 0))) :
    Calls Tryd.prog 14 #[.pointer (some ⟨b, 0, none⟩), .string s] w fun e0 w' => (∃ v, e0 = .returned v) ∧ Fr (fun k => k = b) w w' ∧ w'.heap[b]? = some (.cells (stCells (cells (mids e s.data.toList (s.size / 64))) (bytesV (over rb 0 (s.data.toList.drop (64 * (s.size / 64))))) (n + s.size)).toArray 42 (0, 0)) := by
  have c72 : w.cell? ⟨b, 72, none⟩ = some (.int .i64 n) := by rw [cell_of_row _ _ _ _ _ _ hc, List.getElem?_toArray]; exact stCells_n e rb n hr
  have f72 : w.frozen? ⟨b, 72, none⟩ = false := by simp [World.frozen?, hc]
  have hne : ((n : Int) == 0) = false := by rw [beq_eq_false_iff_ne]; omega
  have hpos2 : decide ((0 : Int) < (n : Int) % 64) = false := by simp; omega
  have hf1 : Fr (fun k => k = b) w (w.setCell ⟨b, 72, none⟩ (.int .i64 ((n : Int) + (s.size : Int)))) := Fr.setCell (S := fun k => k = b) (p := ⟨b, 72, none⟩) (Fr.refl _ w) rfl _
  have hrow1 : (w.setCell ⟨b, 72, none⟩ (.int .i64 ((n : Int) + (s.size : Int)))).heap[b]? = some (.cells (stCells (cells e) (bytesV rb) (n + s.size)).toArray 42 (0, 0)) := by
    rw [heap_setCell_same w b 72 _ 42 _ hc, ← stCells_setN e rb n (n + s.size) hr]
    rfl
  have HT := Lib.hid (take_ok b e he rb (n + s.size) s hs _ (glob_fr hG hb2 hf1) hb2 hrow1)
  have HF1 := Lib.hid hf1
  have hs9 : s.size ≤ 9223372036854775807 := by omega
  clear hf1 hrow1 hc h0 hn0 hG hb2 he
  go_enter Tryd.func14, Tryd.ntmps14
  go_wp2_with fail
  refine HT.out.mono ?_
  rintro e0 w3 ⟨⟨v, rfl⟩, hf3, hw3⟩
  have HF3 := Lib.hid (HF1.out.trans hf3)
  clear hf3 HT HF1
  obtain ⟨e2, he2⟩ : ∃ e2, Hid (e2 = mids e s.data.toList (s.size / 64)) := ⟨_, Lib.hid rfl⟩
  rw [← he2.out] at hw3
  obtain ⟨rb2, hrb2⟩ : ∃ rb2, Hid (rb2 = rb) := ⟨_, Lib.hid rfl⟩
  rw [← hrb2.out] at hr hw3
  have hr2 := hr
  obtain ⟨n2, hn2⟩ : ∃ n2, Hid (n2 = n + s.size) := ⟨_, Lib.hid rfl⟩
  rw [← hn2.out] at hw3
  have hkk : Hid (s.size % 64 = min (s.extract (s.size - s.size % 64) s.size).size 64) := by unfold Hid; simp; omega
  have hrow3 : Hid (w3.drew.heap[b]? = some (.cells (stCells (cells e2) (bytesV rb2) n2).toArray 42 (0, 0))) := hw3
  have hfit3 : Hid (8 + s.size % 64 ≤ (stCells (cells e2) (bytesV rb2) n2).toArray.size) := by unfold Hid; rw [List.size_toArray, stCells_len e2 rb2 _ hr2]; omega
  have hov3 : Hid (splice (stCells (cells e2) (bytesV rb2) n2).toArray 8 (bytesV ((s.extract (s.size - s.size % 64) s.size).data.toList.take (s.size % 64))) = (stCells (cells e2) (bytesV (over rb2 0 (s.data.toList.drop (64 * (s.size / 64))))) n2).toArray) := by
    unfold Hid
    rw [extract_drop]
    exact stCells_over e2 rb2 n2 0 _ hr2 (by rw [List.length_drop]; show 0 + (s.size - _) ≤ 64; omega)
  clear hw3 hr hr2 c72 f72 hne hpos2
  go_wp2_with fail
  refine wp_region_any (by kernel_rfl) ?_
  change wpAny _ _ _ _ _ _ _ (World.drew _)
  refine any_take 0 (some 57) (.move (.tmp 0)) (.pointer (some ⟨b, 0, none⟩)) rfl (by kernel_rfl) (by kernel_rfl) (by kernel_rfl) (fun _ _ _ h => h) (fun o ho w => exec_move (.tmp 0) ho _ rfl w) ?_
  simp only [Act.put, List.setIfInBounds_toArray, List.set_cons_succ, List.set_cons_zero]
  refine any_take 1 (some 58) (.nilCheck (.tmp 57)) (.pointer (some ⟨b, 0, none⟩)) rfl (by kernel_rfl) (by kernel_rfl) (by kernel_rfl) (fun _ _ _ h => h) (fun o ho w => exec_nilCheck (.tmp 57) ho ⟨b, 0, none⟩ rfl w) ?_
  simp only [Act.put, List.setIfInBounds_toArray, List.set_cons_succ, List.set_cons_zero]
  refine any_take 2 (some 59) (.fieldAddr 42 (.tmp 58) 1) (.pointer (some ⟨b, 8, none⟩)) rfl (by kernel_rfl) (by kernel_rfl) (by kernel_rfl) (fun _ _ _ h => h) (fun o ho w => exec_fieldAddr42_1 (.tmp 58) ho b rfl w) ?_
  simp only [Act.put, List.setIfInBounds_toArray, List.set_cons_succ, List.set_cons_zero]
  refine any_take 3 (some 60) (.slice 40 (.tmp 59) none none none) (.slice (some ⟨b, 8, none⟩) 64 64) rfl (by kernel_rfl) (by kernel_rfl) (by kernel_rfl) (fun _ _ _ h => h) (fun o ho w => exec_slice40_all (.tmp 59) ho b rfl w) ?_
  simp only [Act.put, List.setIfInBounds_toArray, List.set_cons_succ, List.set_cons_zero]
  refine any_take 4 (some 61) (.move (.tmp 1)) (.string s) rfl (by kernel_rfl) (by kernel_rfl) (by kernel_rfl) (fun _ _ _ h => h) (fun o ho w => exec_move (.tmp 1) ho _ rfl w) ?_
  simp only [Act.put, List.setIfInBounds_toArray, List.set_cons_succ, List.set_cons_zero]
  refine any_take 5 (some 62) (.move (.tmp 1)) (.string s) rfl (by kernel_rfl) (by kernel_rfl) (by kernel_rfl) (fun _ _ _ h => h) (fun o ho w => exec_move (.tmp 1) ho _ rfl w) ?_
  simp only [Act.put, List.setIfInBounds_toArray, List.set_cons_succ, List.set_cons_zero]
  refine any_take 6 (some 63) (.call { callee := .builtin .len, args := #[.tmp 62], argTypes := #[9] }) (.int .i64 s.size) rfl (by kernel_rfl) (by kernel_rfl) (by kernel_rfl) (fun _ _ _ h => h) (fun o ho w => exec_len9 (.tmp 62) ho s rfl w) ?_
  simp only [Act.put, List.setIfInBounds_toArray, List.set_cons_succ, List.set_cons_zero]
  refine any_take 7 (some 64) (.move (.tmp 1)) (.string s) rfl (by kernel_rfl) (by kernel_rfl) (by kernel_rfl) (fun _ _ _ h => h) (fun o ho w => exec_move (.tmp 1) ho _ rfl w) ?_
  simp only [Act.put, List.setIfInBounds_toArray, List.set_cons_succ, List.set_cons_zero]
  refine any_take 8 (some 65) (.call { callee := .builtin .len, args := #[.tmp 64], argTypes := #[9] }) (.int .i64 s.size) rfl (by kernel_rfl) (by kernel_rfl) (by kernel_rfl) (fun _ _ _ h => h) (fun o ho w => exec_len9 (.tmp 64) ho s rfl w) ?_
  simp only [Act.put, List.setIfInBounds_toArray, List.set_cons_succ, List.set_cons_zero]
  refine any_take 9 (some 66) (.binOp .rem 3 (.tmp 65) (.const (.int .i64 64)) 3) (.int .i64 ((s.size % 64 : Nat) : Int)) rfl (by kernel_rfl) (by kernel_rfl) (by kernel_rfl) (fun _ _ _ h => h) (fun o ho w => exec_rem64 (.tmp 65) ho rfl s.size (by omega) rfl w) ?_
  simp only [Act.put, List.setIfInBounds_toArray, List.set_cons_succ, List.set_cons_zero]
  refine any_take 10 (some 67) (.binOp .sub 3 (.tmp 63) (.tmp 66) 3) (.int .i64 ((s.size - s.size % 64 : Nat) : Int)) rfl (by kernel_rfl) (by kernel_rfl) (by kernel_rfl) (fun _ _ _ h => h) (fun o ho w => exec_subk (.tmp 63) (.tmp 66) ho s.size (s.size % 64) (by omega) (Nat.mod_le _ _) rfl rfl w) ?_
  simp only [Act.put, List.setIfInBounds_toArray, List.set_cons_succ, List.set_cons_zero]
  refine any_take 11 (some 68) (.slice 9 (.tmp 61) (some (.tmp 67)) none none) (.string (s.extract (s.size - s.size % 64) s.size)) rfl (by kernel_rfl) (by kernel_rfl) (by kernel_rfl) (fun _ _ _ h => h) (fun o ho w => exec_sliceFrom (.tmp 61) (.tmp 67) ho s _ (Nat.sub_le _ _) rfl rfl w) ?_
  simp only [Act.put, List.setIfInBounds_toArray, List.set_cons_succ, List.set_cons_zero]
  refine any_one 12 (some 69) (.call { callee := .builtin .copy, args := #[.tmp 60, .tmp 68], argTypes := #[30, 9] }) (by kernel_rfl) rfl _ (fun o ho => exec_copy_any (w3.drew) (.tmp 60) (.tmp 68) 30 9 5 ho b 8 64 64 _ (s.size % 64) hkk.out _ 42 rfl rfl Tryd.underlying30 size5 hrow3.out hfit3.out) ?_
  simp only [Act.put, List.setIfInBounds_toArray, List.set_cons_succ, List.set_cons_zero]
  refine wpAny_done (by kernel_rfl) ?_ _
  go_wp2
  refine bodyPost_end (results_none rfl _ _ _) rfl ?_
  refine ⟨⟨_, rfl⟩, Fr.setRow (S := fun k => k = b) HF3.out.drew rfl _, ?_⟩
  rw [setRow_heap _ _ _ _ _ _ hrow3.out, hov3.out, he2.out, hrb2.out, hn2.out]
end Go.Proofs.YtjkbbndiickcnaaDoor
