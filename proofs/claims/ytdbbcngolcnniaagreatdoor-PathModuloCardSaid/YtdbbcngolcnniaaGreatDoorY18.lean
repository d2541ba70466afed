/- Several texts, one behind the other; each says by itself what it proves, and on what conditions. -/
import Derived.Test.YtdbbcngolcnniaaGreatDoorY17
import Derived.Deep.CutBlock
import Derived.Deep.DeepCutAuto
/- What Write of package sha does to a state that lies in memory. -/
namespace Go.Proofs.YtdbbcngolcnniaaGreatDoor.S3
set_option linter.unusedSimpArgs false
open Go.RowKit
set_option linter.unusedVariables false
theorem take_ok (b : Nat) (st : St) (hst : st.ok) (rb : List UInt8) (n : Nat) (s : ByteArray) (hs : s.size ≤ 1000000) (w : World) (hG : Glob w) (hb2 : 2 ≤ b)
  (hc : w.heap[b]? = some (.cells (stCells (cells st) (bytesV rb) n).toArray 51 (0, 0))) :
  Calls Tryz.prog 36 #[.pointer (some ⟨b, 0, none⟩), .string s] w fun e w' => (∃ v, e = .returned v) ∧ Fr (fun k => k = b) w w' ∧ w'.heap[b]? = some (.cells (stCells (cells (mids st s.data.toList (s.size / 64))) (bytesV rb) n).toArray 51 (0, 0)) :=
 take_any b st hst _ s (by omega) w hG hb2 hc (Lib.hid fun s hs blk hb w hG => behind_any s hs blk hb w hG)
theorem run_slice40 (b h : Nat) (hh : h < 64) (w : World) : (Instr.sliceAt 49 (.pointer (some ⟨b, 8, none⟩)) (some (.int .i64 h)) none none).run Tryz.prog w = .ok (.slice (some ⟨b, 8 + h, none⟩) (64 - h) (64 - h)) w := by
 have h1 := run_sliceAt_array_l (P := Tryz.prog) (w := w) (a := ⟨b, 8, none⟩) (t := 49) (by kernel_rfl) .i64 (h : Int) (by omega) (by rw [show Tryz.prog.arrayLen 49 = 64 by kernel_rfl]; omega)
 have h2 : (sizeOf (Tryz.prog.elem 49)).run Tryz.prog w = .ok 1 w := by kernel_rfl
 have h3 : Tryz.prog.arrayLen 49 = 64 := by kernel_rfl
 rw [h1, h2, h3]
 simp only [Result.andThen_ok, slicedAt, Int.toNat_natCast]
 rw [if_neg (by omega), addr_add, Nat.mul_one]
theorem exec_slice40 {ρ : Operand → Value} {o : Oper} (x y : Operand) (ho : o.op = .slice 49 x (some y) none none) (b h : Nat) (hh : h < 64) (hx : ρ x = .pointer (some ⟨b, 8, none⟩)) (hy : ρ y = .int .i64 h) (w : World) :
  (execOp ρ o).run Tryz.prog w = .ok (.value (.slice (some ⟨b, 8 + h, none⟩) (64 - h) (64 - h))) w := by
 unfold execOp
 simp [ho, hx, hy, run_slice40 b h hh w]
theorem exec_fieldAddr42_1 {ρ : Operand → Value} {o : Oper} (x : Operand) (ho : o.op = .fieldAddr 51 x 1) (b : Nat) (hx : ρ x = .pointer (some ⟨b, 0, none⟩)) (w : World) : (execOp ρ o).run Tryz.prog w = .ok (.value (.pointer (some ⟨b, 8, none⟩))) w := by
 unfold execOp
 simp [ho, hx, go_sem]
theorem exec_slice40_all {ρ : Operand → Value} {o : Oper} (x : Operand) (ho : o.op = .slice 49 x none none none) (b : Nat) (hx : ρ x = .pointer (some ⟨b, 8, none⟩)) (w : World) :
  (execOp ρ o).run Tryz.prog w = .ok (.value (.slice (some ⟨b, 8, none⟩) 64 64)) w := by
 have h2 : (sizeOf (Tryz.prog.elem 49)).run Tryz.prog w = .ok 1 w := by kernel_rfl
 have h3 : Tryz.prog.arrayLen 49 = 64 := by kernel_rfl
 have h1 := run_sliceAt_array_all (P := Tryz.prog) (w := w) (a := ⟨b, 8, none⟩) (t := 49) (by kernel_rfl)
 rw [h2, h3] at h1
 simp only [Result.andThen_ok, slicedAt] at h1
 rw [if_neg (by omega), addr_add] at h1
 unfold execOp
 simp [ho, hx, h1]
theorem exec_len9 {ρ : Operand → Value} {o : Oper} (x : Operand) (ho : o.op = .call { callee := .builtin .len, args := #[x], argTypes := #[9] }) (s : ByteArray) (hx : ρ x = .string s) (w : World) : (execOp ρ o).run Tryz.prog w = .ok (.value (.int .i64 s.size)) w := by
 unfold execOp
 simp [ho, hx, go_sem]
theorem exec_rem64 {ρ : Operand → Value} {o : Oper} (x : Operand) (ho : o.op = .binOp .rem 3 x (.const (.int .i64 64)) 3) (hc : ρ (.const (.int .i64 64)) = .int .i64 64) (n : Nat) (hn : n ≤ 9223372036854775807) (hx : ρ x = .int .i64 n) (w : World) : (execOp ρ o).run Tryz.prog w = .ok (.value (.int .i64 ((n % 64 : Nat) : Int))) w := by
 have h0 : (0 : Int) ≤ (n : Int) := by omega
 unfold execOp
 simp only [ho, hx, hc]
 go_simp
 exact Int.tmod_eq_emod_of_nonneg h0
theorem exec_subk {ρ : Operand → Value} {o : Oper} (x y : Operand) (ho : o.op = .binOp .sub 3 x y 3) (n m : Nat) (hn : n ≤ 9223372036854775807) (hm : m ≤ n) (hx : ρ x = .int .i64 n) (hy : ρ y = .int .i64 m) (w : World) : (execOp ρ o).run Tryz.prog w = .ok (.value (.int .i64 ((n - m : Nat) : Int))) w := by
 have h0 : IntKind.i64.wrap ((n : Int) - (m : Int)) = ((n - m : Nat) : Int) := by rw [IntWalk.i64_in _ (by omega)]; omega
 unfold execOp
 simp only [ho, hx, hy]
 go_simp
theorem exec_sliceFrom {ρ : Operand → Value} {o : Oper} (x y : Operand) (ho : o.op = .slice 9 x (some y) none none) (s : ByteArray) (q : Nat) (hq : q ≤ s.size) (hx : ρ x = .string s) (hy : ρ y = .int .i64 q) (w : World) : (execOp ρ o).run Tryz.prog w = .ok (.value (.string (s.extract q s.size))) w := by
 have h1 : (q : Int) ≤ (s.size : Int) := by omega
 unfold execOp
 simp only [ho, hx, hy]
 go_simp
set_option maxRecDepth 100000 in
set_option maxHeartbeats 1000000 in
theorem write_short {w : World} {b : Nat} (e : St) (rb : List UInt8) (n : Nat) (s : ByteArray) (hr : rb.length = 64) (hn : n ≤ 1000000) (hs : s.size ≤ 1000000) (h0 : 0 < n % 64) (hlt : n % 64 + s.size < 64)
  (hc : w.heap[b]? = some (.cells (stCells (cells e) (bytesV rb) n).toArray 51 (0, 0))) :
  Calls Tryz.prog 17 #[.pointer (some ⟨b, 0, none⟩), .string s] w fun e0 w' => (∃ v, e0 = .returned v) ∧ Fr (fun k => k = b) w w' ∧ w'.heap[b]? = some (.cells (stCells (cells e) (bytesV (over rb (n % 64) s.data.toList)) (n + s.size)).toArray 51 (0, 0)) := by
 have c72 : w.cell? ⟨b, 72, none⟩ = some (.int .i64 n) := by rw [cell_of_row _ _ _ _ _ _ hc, List.getElem?_toArray]; exact stCells_n e rb n hr
 have f72 : w.frozen? ⟨b, 72, none⟩ = false := by simp [World.frozen?, hc]
 have hne : ((n : Int) == 0) = false := by rw [beq_eq_false_iff_ne]; omega
 have hm : Hid ((n : Int) % 64 = ((n % 64 : Nat) : Int)) := Lib.hid (by omega)
 have hpos : (0 : Int) < (n : Int) % 64 := by omega
 have hpos2 : decide ((0 : Int) < (n : Int) % 64) = true := by simp; omega
 have hl1 : (n : Int) % 64 + (s.size : Int) < 64 := by omega
 have hl2 : decide ((n : Int) % 64 + (s.size : Int) < 64) = true := by simp; omega
 have HR2 : Hid ((w.setCell ⟨b, 72, none⟩ (.int .i64 ((n : Int) + (s.size : Int)))).heap[b]? = some (.cells (stCells (cells e) (bytesV rb) (n + s.size)).toArray 51 (0, 0))) := by
  unfold Hid
  rw [heap_setCell_same w b 72 _ 51 _ hc, ← stCells_setN e rb n (n + s.size) hr]
  rfl
 have hk : Hid (s.size = min s.size (64 - n % 64)) := Lib.hid (by omega)
 have hfit : Hid (8 + n % 64 + s.size ≤ (stCells (cells e) (bytesV rb) (n + s.size)).toArray.size) := by unfold Hid; rw [List.size_toArray, stCells_len e rb _ hr]; omega
 have hh64 : Hid (n % 64 < 64) := Lib.hid (by omega)
 have hov : Hid (splice (stCells (cells e) (bytesV rb) (n + s.size)).toArray (8 + n % 64) (bytesV (s.data.toList.take s.size)) = (stCells (cells e) (bytesV (over rb (n % 64) s.data.toList)) (n + s.size)).toArray) := by
  unfold Hid
  rw [List.take_of_length_le (by exact Nat.le_refl _)]
  exact stCells_over e rb _ _ _ hr (by show n % 64 + s.size ≤ 64; omega)
 have hcw := Lib.hid hc
 clear hc h0 hlt hr
 go_enter Tryz.func17, Tryz.ntmps17
 go_wp2_with (first | (refine wpList_run rfl _ (exec_slice40 (.tmp 35) (.tmp 36) rfl b (n % 64) hh64.out rfl (congrArg (Value.int .i64) hm.out) _) ?_) | (refine wpList_run rfl _ (exec_copy_any _ (.tmp 37) (.tmp 38) 22 9 5 rfl b (8 + n % 64) (64 - n % 64) (64 - n % 64) s s.size hk.out _ 51 rfl rfl Tryz.underlying22 size5 HR2.out hfit.out) ?_))
 refine bodyPost_ret (results_none rfl _ _ _) rfl ?_
 refine ⟨⟨_, rfl⟩, Fr.setRow (S := fun k => k = b) (Fr.setCell (S := fun k => k = b) (p := ⟨b, 72, none⟩) (Fr.refl _ w) rfl _) rfl _, ?_⟩
 rw [setRow_heap _ _ _ _ _ _ HR2.out, hov.out]
theorem extract_drop (s : ByteArray) : (s.extract (s.size - s.size % 64) s.size).data.toList.take (s.size % 64) = s.data.toList.drop (64 * (s.size / 64)) := by
 rw [ByteArray.data_extract, Array.toList_extract, List.extract_eq_take_drop, List.take_take, show s.size - (s.size - s.size % 64) = s.size % 64 by omega, Nat.min_self, show s.size - s.size % 64 = 64 * (s.size / 64) by omega]
 exact List.take_of_length_le (by rw [List.length_drop]; show s.size - _ ≤ _; omega)
theorem glob_fr {w w' : World} {b : Nat} (hG : Glob w) (hb : 2 ≤ b) (hf : Fr (fun k => k = b) w w') : Glob w' := by
 have h2 := hG.two
 exact ⟨by rw [hf.block 1 (by omega) (by omega)]; exact hG.1, by rw [hf.block 0 (by omega) (by omega)]; exact hG.2⟩
set_option maxRecDepth 100000 in
set_option maxHeartbeats 1000000 in
theorem write_zero {w : World} {b : Nat} (e : St) (he : e.ok) (rb : List UInt8) (n : Nat) (s : ByteArray) (hr : rb.length = 64) (hn : n ≤ 1000000) (hs : s.size ≤ 1000000) (h0 : n % 64 = 0) (hn0 : n ≠ 0) (hG : Glob w) (hb2 : 2 ≤ b)
  (hc : w.heap[b]? = some (.cells (stCells (cells e) (bytesV rb) n).toArray 51 (0, 0))) :
  Calls Tryz.prog 17 #[.pointer (some ⟨b, 0, none⟩), .string s] w fun e0 w' => (∃ v, e0 = .returned v) ∧ Fr (fun k => k = b) w w' ∧ w'.heap[b]? = some (.cells (stCells (cells (mids e s.data.toList (s.size / 64))) (bytesV (over rb 0 (s.data.toList.drop (64 * (s.size / 64))))) (n + s.size)).toArray 51 (0, 0)) := by
 have c72 : w.cell? ⟨b, 72, none⟩ = some (.int .i64 n) := by rw [cell_of_row _ _ _ _ _ _ hc, List.getElem?_toArray]; exact stCells_n e rb n hr
 have f72 : w.frozen? ⟨b, 72, none⟩ = false := by simp [World.frozen?, hc]
 have hne : ((n : Int) == 0) = false := by rw [beq_eq_false_iff_ne]; omega
 have hpos2 : decide ((0 : Int) < (n : Int) % 64) = false := by simp; omega
 have hf1 : Fr (fun k => k = b) w (w.setCell ⟨b, 72, none⟩ (.int .i64 ((n : Int) + (s.size : Int)))) := Fr.setCell (S := fun k => k = b) (p := ⟨b, 72, none⟩) (Fr.refl _ w) rfl _
 have hrow1 : (w.setCell ⟨b, 72, none⟩ (.int .i64 ((n : Int) + (s.size : Int)))).heap[b]? = some (.cells (stCells (cells e) (bytesV rb) (n + s.size)).toArray 51 (0, 0)) := by
  rw [heap_setCell_same w b 72 _ 51 _ hc, ← stCells_setN e rb n (n + s.size) hr]
  rfl
 have HT := Lib.hid (take_ok b e he rb (n + s.size) s hs _ (glob_fr hG hb2 hf1) hb2 hrow1)
 have HF1 := Lib.hid hf1
 have hs9 : s.size ≤ 9223372036854775807 := by omega
 clear hf1 hrow1 hc h0 hn0 hG hb2 he
 go_enter Tryz.func17, Tryz.ntmps17
 go_wp2_with fail
 refine HT.out.mono ?_
 rintro e0 w3 ⟨⟨v, rfl⟩, hf3, hw3⟩
 have HF3 := Lib.hid (HF1.out.trans hf3)
 clear hf3 HT HF1
 obtain ⟨e2, he2⟩ : ∃ e2, Hid (e2 = mids e s.data.toList (s.size / 64)) := ⟨_, Lib.hid rfl⟩
 rw [← he2.out] at hw3
 obtain ⟨rb2, hrb2⟩ : ∃ rb2, Hid (rb2 = rb) := ⟨_, Lib.hid rfl⟩
 rw [← hrb2.out] at hr hw3
 have hr2 := hr
 obtain ⟨n2, hn2⟩ : ∃ n2, Hid (n2 = n + s.size) := ⟨_, Lib.hid rfl⟩
 rw [← hn2.out] at hw3
 have hkk : Hid (s.size % 64 = min (s.extract (s.size - s.size % 64) s.size).size 64) := by unfold Hid; simp; omega
 have hrow3 : Hid (w3.drew.heap[b]? = some (.cells (stCells (cells e2) (bytesV rb2) n2).toArray 51 (0, 0))) := hw3
 have hfit3 : Hid (8 + s.size % 64 ≤ (stCells (cells e2) (bytesV rb2) n2).toArray.size) := by unfold Hid; rw [List.size_toArray, stCells_len e2 rb2 _ hr2]; omega
 have hov3 : Hid (splice (stCells (cells e2) (bytesV rb2) n2).toArray 8 (bytesV ((s.extract (s.size - s.size % 64) s.size).data.toList.take (s.size % 64))) = (stCells (cells e2) (bytesV (over rb2 0 (s.data.toList.drop (64 * (s.size / 64))))) n2).toArray) := by
  unfold Hid
  rw [extract_drop]
  exact stCells_over e2 rb2 n2 0 _ hr2 (by rw [List.length_drop]; show 0 + (s.size - _) ≤ 64; omega)
 clear hw3 hr hr2 c72 f72 hne hpos2
 go_wp2_with fail
 refine wp_region_any (by kernel_rfl) ?_
 change wpAny _ _ _ _ _ _ _ (World.drew _)
 refine any_take 0 (some 57) (.move (.tmp 0)) (.pointer (some ⟨b, 0, none⟩)) rfl (by kernel_rfl) (by kernel_rfl) (by kernel_rfl) (fun _ _ _ h => h) (fun o ho w => exec_move (.tmp 0) ho _ rfl w) ?_
 simp only [Act.put, sT, sS, sZ]
 refine any_take 1 (some 58) (.nilCheck (.tmp 57)) (.pointer (some ⟨b, 0, none⟩)) rfl (by kernel_rfl) (by kernel_rfl) (by kernel_rfl) (fun _ _ _ h => h) (fun o ho w => exec_nilCheck (.tmp 57) ho ⟨b, 0, none⟩ rfl w) ?_
 simp only [Act.put, sT, sS, sZ]
 refine any_take 2 (some 59) (.fieldAddr 51 (.tmp 58) 1) (.pointer (some ⟨b, 8, none⟩)) rfl (by kernel_rfl) (by kernel_rfl) (by kernel_rfl) (fun _ _ _ h => h) (fun o ho w => exec_fieldAddr42_1 (.tmp 58) ho b rfl w) ?_
 simp only [Act.put, sT, sS, sZ]
 refine any_take 3 (some 60) (.slice 49 (.tmp 59) none none none) (.slice (some ⟨b, 8, none⟩) 64 64) rfl (by kernel_rfl) (by kernel_rfl) (by kernel_rfl) (fun _ _ _ h => h) (fun o ho w => exec_slice40_all (.tmp 59) ho b rfl w) ?_
 simp only [Act.put, sT, sS, sZ]
 refine any_take 4 (some 61) (.move (.tmp 1)) (.string s) rfl (by kernel_rfl) (by kernel_rfl) (by kernel_rfl) (fun _ _ _ h => h) (fun o ho w => exec_move (.tmp 1) ho _ rfl w) ?_
 simp only [Act.put, sT, sS, sZ]
 refine any_take 5 (some 62) (.move (.tmp 1)) (.string s) rfl (by kernel_rfl) (by kernel_rfl) (by kernel_rfl) (fun _ _ _ h => h) (fun o ho w => exec_move (.tmp 1) ho _ rfl w) ?_
 simp only [Act.put, sT, sS, sZ]
 refine any_take 6 (some 63) (.call { callee := .builtin .len, args := #[.tmp 62], argTypes := #[9] }) (.int .i64 s.size) rfl (by kernel_rfl) (by kernel_rfl) (by kernel_rfl) (fun _ _ _ h => h) (fun o ho w => exec_len9 (.tmp 62) ho s rfl w) ?_
 simp only [Act.put, sT, sS, sZ]
 refine any_take 7 (some 64) (.move (.tmp 1)) (.string s) rfl (by kernel_rfl) (by kernel_rfl) (by kernel_rfl) (fun _ _ _ h => h) (fun o ho w => exec_move (.tmp 1) ho _ rfl w) ?_
 simp only [Act.put, sT, sS, sZ]
 refine any_take 8 (some 65) (.call { callee := .builtin .len, args := #[.tmp 64], argTypes := #[9] }) (.int .i64 s.size) rfl (by kernel_rfl) (by kernel_rfl) (by kernel_rfl) (fun _ _ _ h => h) (fun o ho w => exec_len9 (.tmp 64) ho s rfl w) ?_
 simp only [Act.put, sT, sS, sZ]
 refine any_take 9 (some 66) (.binOp .rem 3 (.tmp 65) (.const (.int .i64 64)) 3) (.int .i64 ((s.size % 64 : Nat) : Int)) rfl (by kernel_rfl) (by kernel_rfl) (by kernel_rfl) (fun _ _ _ h => h) (fun o ho w => exec_rem64 (.tmp 65) ho rfl s.size (by omega) rfl w) ?_
 simp only [Act.put, sT, sS, sZ]
 refine any_take 10 (some 67) (.binOp .sub 3 (.tmp 63) (.tmp 66) 3) (.int .i64 ((s.size - s.size % 64 : Nat) : Int)) rfl (by kernel_rfl) (by kernel_rfl) (by kernel_rfl) (fun _ _ _ h => h) (fun o ho w => exec_subk (.tmp 63) (.tmp 66) ho s.size (s.size % 64) (by omega) (Nat.mod_le _ _) rfl rfl w) ?_
 simp only [Act.put, sT, sS, sZ]
 refine any_take 11 (some 68) (.slice 9 (.tmp 61) (some (.tmp 67)) none none) (.string (s.extract (s.size - s.size % 64) s.size)) rfl (by kernel_rfl) (by kernel_rfl) (by kernel_rfl) (fun _ _ _ h => h) (fun o ho w => exec_sliceFrom (.tmp 61) (.tmp 67) ho s _ (Nat.sub_le _ _) rfl rfl w) ?_
 simp only [Act.put, sT, sS, sZ]
 refine any_one 12 (some 69) (.call { callee := .builtin .copy, args := #[.tmp 60, .tmp 68], argTypes := #[22, 9] }) (by kernel_rfl) rfl _ (fun o ho => exec_copy_any (w3.drew) (.tmp 60) (.tmp 68) 22 9 5 ho b 8 64 64 _ (s.size % 64) hkk.out _ 51 rfl rfl Tryz.underlying22 size5 hrow3.out hfit3.out) ?_
 simp only [Act.put, sT, sS, sZ]
 refine wpAny_done (by kernel_rfl) ?_ _
 go_wp2
 refine bodyPost_end (results_none rfl _ _ _) rfl ?_
 refine ⟨⟨_, rfl⟩, Fr.setRow (S := fun k => k = b) HF3.out.drew rfl _, ?_⟩
 rw [setRow_heap _ _ _ _ _ _ hrow3.out, hov3.out, he2.out, hrb2.out, hn2.out]
end Go.Proofs.YtdbbcngolcnniaaGreatDoor.S3
/- What Write of package sha does to a state that lies in memory: the first bytes; more than a block's rest. -/
namespace Go.Proofs.YtdbbcngolcnniaaGreatDoor.S3
set_option linter.unusedSimpArgs false
open Go.RowKit
set_option linter.unusedVariables false
set_option maxRecDepth 100000 in
set_option maxHeartbeats 1000000 in
theorem write_first {w : World} {b : Nat} (e : St) (rb : List UInt8) (s : ByteArray) (hr : rb.length = 64) (hs : s.size ≤ 1000000)  (hG : Glob w) (hb2 : 2 ≤ b)
  (hc : w.heap[b]? = some (.cells (stCells (cells e) (bytesV rb) 0).toArray 51 (0, 0))) :
  Calls Tryz.prog 17 #[.pointer (some ⟨b, 0, none⟩), .string s] w fun e0 w' => (∃ v, e0 = .returned v) ∧ Fr (fun k => k = b) w w' ∧ w'.heap[b]? = some (.cells (stCells (cells (mids h0 s.data.toList (s.size / 64))) (bytesV (over rb 0 (s.data.toList.drop (64 * (s.size / 64))))) (0 + s.size)).toArray 51 (0, 0)) := by
 have c72 : w.cell? ⟨b, 72, none⟩ = some (.int .i64 0) := by rw [cell_of_row _ _ _ _ _ _ hc, List.getElem?_toArray]; exact stCells_n e rb 0 hr
 have hseg : Hid (∀ j v, (cells h0)[j]? = some v → w.cell? ⟨0, 0 + j, none⟩ = some v) := by
  obtain ⟨_, t, h1⟩ := hG
  intro j v hv
  rw [cell_of_row _ _ _ _ _ _ h1, Nat.zero_add, List.getElem?_toArray, hv]
 have hsz : Hid ((Tryz.prog.info? 48).map (·.size) = some (cells h0).length) := Lib.hid (size42f _ rfl)
 have hone : Hid (∀ v ∈ cells h0, v.oneCell' = true) := Lib.hid (cells_one _)
 have hfit : Hid (0 + (cells h0).length ≤ (stCells (cells e) (bytesV rb) 0).toArray.size) := by unfold Hid; rw [List.size_toArray, stCells_len e rb _ hr]; show 0 + 8 ≤ 73; omega
 have HC := Lib.hid hc
 have HGw := Lib.hid hG
 have HR := Lib.hid hr
 clear hc hG hr
 go_enter Tryz.func17, Tryz.ntmps17
 go_upto_region 3 with (first | (refine wpList_load_seg rfl 48 (.global 0) rfl 0 0 rfl (cells h0) _ hseg.out Tryz.underlying48 rfl hsz.out ?_) | (refine wpList_store_seg rfl 48 (.tmp 16) (.tmp 14) rfl b 0 rfl (cells h0) rfl _ 51 HC.out hfit.out hone.out hsz.out ?_))
 rw [stCells_head e h0 rb 0]
 have hf0 : Fr (fun k => k = b) w (w.setRow b (stCells (cells h0) (bytesV rb) 0).toArray) := Fr.setRow (S := fun k => k = b) (Fr.refl _ w) rfl _
 have hc : (w.setRow b (stCells (cells h0) (bytesV rb) 0).toArray).heap[b]? = some (.cells (stCells (cells h0) (bytesV rb) 0).toArray 51 (0, 0)) := setRow_heap _ _ _ _ _ _ HC.out
 obtain ⟨w1, hw1⟩ : ∃ w1, w1 = w.setRow b (stCells (cells h0) (bytesV rb) 0).toArray := ⟨_, rfl⟩
 rw [← hw1] at hf0 hc ⊢
 clear hw1 c72 hseg hsz hone hfit HC
 have hG := glob_fr HGw.out hb2 hf0
 have hr := HR.out
 clear HGw HR
 have c72 : w1.cell? ⟨b, 72, none⟩ = some (.int .i64 0) := by rw [cell_of_row _ _ _ _ _ _ hc, List.getElem?_toArray]; exact stCells_n h0 rb 0 hr
 have f72 : w1.frozen? ⟨b, 72, none⟩ = false := by simp [World.frozen?, hc]
 have hf1 : Fr (fun k => k = b) w (w1.setCell ⟨b, 72, none⟩ (.int .i64 (s.size : Int))) := Fr.setCell (S := fun k => k = b) (p := ⟨b, 72, none⟩) hf0 rfl _
 have hrow1 : (w1.setCell ⟨b, 72, none⟩ (.int .i64 (s.size : Int))).heap[b]? = some (.cells (stCells (cells h0) (bytesV rb) (0 + s.size)).toArray 51 (0, 0)) := by
  rw [heap_setCell_same w1 b 72 _ 51 _ hc, Nat.zero_add, ← stCells_setN h0 rb 0 s.size hr]
 have hG1 := hG.two
 have HT := Lib.hid (take_ok b h0 h0_ok rb (0 + s.size) s hs _ (glob_fr hG hb2 (Fr.setCell (S := fun k => k = b) (p := ⟨b, 72, none⟩) (Fr.refl _ w1) rfl _)) hb2 hrow1)
 have HF1 := Lib.hid hf1
 have hs9 : s.size ≤ 9223372036854775807 := by omega
 clear hf1 hrow1 hc hG hb2 hG1 hf0
 go_wp2_with fail
 refine HT.out.mono ?_
 rintro e0 w3 ⟨⟨v, rfl⟩, hf3, hw3⟩
 have HF3 := Lib.hid (HF1.out.trans hf3)
 clear hf3 HT HF1
 obtain ⟨e2, he2⟩ : ∃ e2, Hid (e2 = mids h0 s.data.toList (s.size / 64)) := ⟨_, Lib.hid rfl⟩
 rw [← he2.out] at hw3
 obtain ⟨rb2, hrb2⟩ : ∃ rb2, Hid (rb2 = rb) := ⟨_, Lib.hid rfl⟩
 rw [← hrb2.out] at hr hw3
 have hr2 := hr
 obtain ⟨n2, hn2⟩ : ∃ n2, Hid (n2 = 0 + s.size) := ⟨_, Lib.hid rfl⟩
 rw [← hn2.out] at hw3
 have hkk : Hid (s.size % 64 = min (s.extract (s.size - s.size % 64) s.size).size 64) := by unfold Hid; simp; omega
 have hrow3 : Hid (w3.drew.heap[b]? = some (.cells (stCells (cells e2) (bytesV rb2) n2).toArray 51 (0, 0))) := hw3
 have hfit3 : Hid (8 + s.size % 64 ≤ (stCells (cells e2) (bytesV rb2) n2).toArray.size) := by unfold Hid; rw [List.size_toArray, stCells_len e2 rb2 _ hr2]; omega
 have hov3 : Hid (splice (stCells (cells e2) (bytesV rb2) n2).toArray 8 (bytesV ((s.extract (s.size - s.size % 64) s.size).data.toList.take (s.size % 64))) = (stCells (cells e2) (bytesV (over rb2 0 (s.data.toList.drop (64 * (s.size / 64))))) n2).toArray) := by
  unfold Hid
  rw [extract_drop]
  exact stCells_over e2 rb2 n2 0 _ hr2 (by rw [List.length_drop]; show 0 + (s.size - _) ≤ 64; omega)
 clear hw3 hr hr2 c72 f72
 go_wp2_with fail
 refine wp_region_any (by kernel_rfl) ?_
 change wpAny _ _ _ _ _ _ _ (World.drew _)
 refine any_take 0 (some 57) (.move (.tmp 0)) (.pointer (some ⟨b, 0, none⟩)) rfl (by kernel_rfl) (by kernel_rfl) (by kernel_rfl) (fun _ _ _ h => h) (fun o ho w => exec_move (.tmp 0) ho _ rfl w) ?_
 simp only [Act.put, sT, sS, sZ]
 refine any_take 1 (some 58) (.nilCheck (.tmp 57)) (.pointer (some ⟨b, 0, none⟩)) rfl (by kernel_rfl) (by kernel_rfl) (by kernel_rfl) (fun _ _ _ h => h) (fun o ho w => exec_nilCheck (.tmp 57) ho ⟨b, 0, none⟩ rfl w) ?_
 simp only [Act.put, sT, sS, sZ]
 refine any_take 2 (some 59) (.fieldAddr 51 (.tmp 58) 1) (.pointer (some ⟨b, 8, none⟩)) rfl (by kernel_rfl) (by kernel_rfl) (by kernel_rfl) (fun _ _ _ h => h) (fun o ho w => exec_fieldAddr42_1 (.tmp 58) ho b rfl w) ?_
 simp only [Act.put, sT, sS, sZ]
 refine any_take 3 (some 60) (.slice 49 (.tmp 59) none none none) (.slice (some ⟨b, 8, none⟩) 64 64) rfl (by kernel_rfl) (by kernel_rfl) (by kernel_rfl) (fun _ _ _ h => h) (fun o ho w => exec_slice40_all (.tmp 59) ho b rfl w) ?_
 simp only [Act.put, sT, sS, sZ]
 refine any_take 4 (some 61) (.move (.tmp 1)) (.string s) rfl (by kernel_rfl) (by kernel_rfl) (by kernel_rfl) (fun _ _ _ h => h) (fun o ho w => exec_move (.tmp 1) ho _ rfl w) ?_
 simp only [Act.put, sT, sS, sZ]
 refine any_take 5 (some 62) (.move (.tmp 1)) (.string s) rfl (by kernel_rfl) (by kernel_rfl) (by kernel_rfl) (fun _ _ _ h => h) (fun o ho w => exec_move (.tmp 1) ho _ rfl w) ?_
 simp only [Act.put, sT, sS, sZ]
 refine any_take 6 (some 63) (.call { callee := .builtin .len, args := #[.tmp 62], argTypes := #[9] }) (.int .i64 s.size) rfl (by kernel_rfl) (by kernel_rfl) (by kernel_rfl) (fun _ _ _ h => h) (fun o ho w => exec_len9 (.tmp 62) ho s rfl w) ?_
 simp only [Act.put, sT, sS, sZ]
 refine any_take 7 (some 64) (.move (.tmp 1)) (.string s) rfl (by kernel_rfl) (by kernel_rfl) (by kernel_rfl) (fun _ _ _ h => h) (fun o ho w => exec_move (.tmp 1) ho _ rfl w) ?_
 simp only [Act.put, sT, sS, sZ]
 refine any_take 8 (some 65) (.call { callee := .builtin .len, args := #[.tmp 64], argTypes := #[9] }) (.int .i64 s.size) rfl (by kernel_rfl) (by kernel_rfl) (by kernel_rfl) (fun _ _ _ h => h) (fun o ho w => exec_len9 (.tmp 64) ho s rfl w) ?_
 simp only [Act.put, sT, sS, sZ]
 refine any_take 9 (some 66) (.binOp .rem 3 (.tmp 65) (.const (.int .i64 64)) 3) (.int .i64 ((s.size % 64 : Nat) : Int)) rfl (by kernel_rfl) (by kernel_rfl) (by kernel_rfl) (fun _ _ _ h => h) (fun o ho w => exec_rem64 (.tmp 65) ho rfl s.size (by omega) rfl w) ?_
 simp only [Act.put, sT, sS, sZ]
 refine any_take 10 (some 67) (.binOp .sub 3 (.tmp 63) (.tmp 66) 3) (.int .i64 ((s.size - s.size % 64 : Nat) : Int)) rfl (by kernel_rfl) (by kernel_rfl) (by kernel_rfl) (fun _ _ _ h => h) (fun o ho w => exec_subk (.tmp 63) (.tmp 66) ho s.size (s.size % 64) (by omega) (Nat.mod_le _ _) rfl rfl w) ?_
 simp only [Act.put, sT, sS, sZ]
 refine any_take 11 (some 68) (.slice 9 (.tmp 61) (some (.tmp 67)) none none) (.string (s.extract (s.size - s.size % 64) s.size)) rfl (by kernel_rfl) (by kernel_rfl) (by kernel_rfl) (fun _ _ _ h => h) (fun o ho w => exec_sliceFrom (.tmp 61) (.tmp 67) ho s _ (Nat.sub_le _ _) rfl rfl w) ?_
 simp only [Act.put, sT, sS, sZ]
 refine any_one 12 (some 69) (.call { callee := .builtin .copy, args := #[.tmp 60, .tmp 68], argTypes := #[22, 9] }) (by kernel_rfl) rfl _ (fun o ho => exec_copy_any (w3.drew) (.tmp 60) (.tmp 68) 22 9 5 ho b 8 64 64 _ (s.size % 64) hkk.out _ 51 rfl rfl Tryz.underlying22 size5 hrow3.out hfit3.out) ?_
 simp only [Act.put, sT, sS, sZ]
 refine wpAny_done (by kernel_rfl) ?_ _
 go_wp2
 refine bodyPost_end (results_none rfl _ _ _) rfl ?_
 refine ⟨⟨_, rfl⟩, Fr.setRow (S := fun k => k = b) HF3.out.drew rfl _, ?_⟩
 rw [setRow_heap _ _ _ _ _ _ hrow3.out, hov3.out, he2.out, hrb2.out, hn2.out]
set_option maxRecDepth 100000 in
set_option maxHeartbeats 1000000 in
theorem write_long {w : World} {b : Nat} (e : St) (he : e.ok) (rb : List UInt8) (n : Nat) (s s2 : ByteArray) (hr : rb.length = 64) (hn : n ≤ 1000000) (hs : s.size ≤ 1000000) (h0 : 0 < n % 64) (hge : 64 ≤ n % 64 + s.size) (hs2 : s2 = s.extract (64 - n % 64) s.size) (R : List UInt8) (hR : R = over rb (n % 64) (s.data.toList.take (64 - n % 64))) (hG : Glob w) (hb2 : 2 ≤ b)
  (hc : w.heap[b]? = some (.cells (stCells (cells e) (bytesV rb) n).toArray 51 (0, 0))) :
  Calls Tryz.prog 17 #[.pointer (some ⟨b, 0, none⟩), .string s] w fun e0 w' => (∃ v, e0 = .returned v) ∧ Fr (fun k => k = b) w w' ∧ w'.heap[b]? = some (.cells (stCells (cells (mids (mids e R 1) s2.data.toList (s2.size / 64))) (bytesV (over R 0 (s2.data.toList.drop (64 * (s2.size / 64))))) (n + s.size)).toArray 51 (0, 0)) := by
 have c72 : w.cell? ⟨b, 72, none⟩ = some (.int .i64 n) := by rw [cell_of_row _ _ _ _ _ _ hc, List.getElem?_toArray]; exact stCells_n e rb n hr
 have f72 : w.frozen? ⟨b, 72, none⟩ = false := by simp [World.frozen?, hc]
 have hne : ((n : Int) == 0) = false := by rw [beq_eq_false_iff_ne]; omega
 have hm : Hid ((n : Int) % 64 = ((n % 64 : Nat) : Int)) := Lib.hid (by omega)
 have hpos : (0 : Int) < (n : Int) % 64 := by omega
 have hpos2 : decide ((0 : Int) < (n : Int) % 64) = true := by simp; omega
 obtain ⟨k, hk0⟩ : ∃ k, k = 64 - n % 64 := ⟨_, rfl⟩
 have hl1 : ¬ ((n : Int) % 64 + (k : Int) < 64) := by omega
 have hl2 : decide ((n : Int) % 64 + (k : Int) < 64) = false := by simp; omega
 have hks : k ≤ s.size := by omega
 have hksI : (k : Int) ≤ (s.size : Int) := by omega
 have HR2 : Hid ((w.setCell ⟨b, 72, none⟩ (.int .i64 ((n : Int) + (s.size : Int)))).heap[b]? = some (.cells (stCells (cells e) (bytesV rb) (n + s.size)).toArray 51 (0, 0))) := by
  unfold Hid
  rw [heap_setCell_same w b 72 _ 51 _ hc, ← stCells_setN e rb n (n + s.size) hr]
  rfl
 have hk : Hid (k = min s.size (64 - n % 64)) := Lib.hid (by omega)
 have hfit : Hid (8 + n % 64 + k ≤ (stCells (cells e) (bytesV rb) (n + s.size)).toArray.size) := by unfold Hid; rw [List.size_toArray, stCells_len e rb _ hr]; omega
 have hh64 : Hid (n % 64 < 64) := Lib.hid (by omega)
 have htl : (s.data.toList.take k).length = k := by rw [List.length_take]; show min k s.size = k; omega
 have hRl : R.length = 64 := by rw [hR, ← hk0, over_length _ _ _ (by rw [htl]; omega)]; exact hr
 have hov : Hid (splice (stCells (cells e) (bytesV rb) (n + s.size)).toArray (8 + n % 64) (bytesV (s.data.toList.take k)) = (stCells (cells e) (bytesV R) (n + s.size)).toArray) := by
  unfold Hid
  rw [hR, ← hk0]
  exact stCells_over e rb _ _ _ hr (by rw [htl]; omega)
 have HRl := Lib.hid hRl
 have hs9 : s.size ≤ 9223372036854775807 := by omega
 have hs2s : s2.size ≤ 1000000 := by rw [hs2]; simp; omega
 have hs29 : s2.size ≤ 9223372036854775807 := by omega
 have HS2 : Hid (s.extract k s.size = s2) := by unfold Hid; rw [hs2, ← hk0]
 have HC := Lib.hid hc
 have HGw := Lib.hid hG
 have Hb2 := Lib.hid hb2
 have HE := Lib.hid he
 clear hc h0 hge hr hR hRl htl hk0 hs2 hG hb2 he
 go_enter Tryz.func17, Tryz.ntmps17
 go_upto_region 7 with (first | (refine wpList_run rfl _ (exec_slice40 (.tmp 35) (.tmp 36) rfl b (n % 64) hh64.out rfl (congrArg (Value.int .i64) hm.out) _) ?_) | (refine wpList_run rfl _ (exec_copy_any _ (.tmp 37) (.tmp 38) 22 9 5 rfl b (8 + n % 64) (64 - n % 64) (64 - n % 64) s k hk.out _ 51 rfl rfl Tryz.underlying22 size5 HR2.out hfit.out) ?_))
 have hf1 : Fr (fun k => k = b) w ((w.setCell ⟨b, 72, none⟩ (.int .i64 ((n : Int) + (s.size : Int)))).setRow b (stCells (cells e) (bytesV R) (n + s.size)).toArray) := Fr.setRow (S := fun k => k = b) (Fr.setCell (S := fun k => k = b) (p := ⟨b, 72, none⟩) (Fr.refl _ w) rfl _) rfl _
 have hc1 : ((w.setCell ⟨b, 72, none⟩ (.int .i64 ((n : Int) + (s.size : Int)))).setRow b (stCells (cells e) (bytesV R) (n + s.size)).toArray).heap[b]? = some (.cells (stCells (cells e) (bytesV R) (n + s.size)).toArray 51 (0, 0)) := setRow_heap _ _ _ _ _ _ HR2.out
 rw [hov.out]
 obtain ⟨w1, hw1⟩ : ∃ w1, w1 = (w.setCell ⟨b, 72, none⟩ (.int .i64 ((n : Int) + (s.size : Int)))).setRow b (stCells (cells e) (bytesV R) (n + s.size)).toArray := ⟨_, rfl⟩
 rw [← hw1] at hf1 hc1 ⊢
 clear hw1 c72 f72 hov HR2 hfit HC hk
 have hG1 := glob_fr HGw.out Hb2.out hf1
 have hcv : (Go.convert 22 9 (.slice (some ⟨b, 8, none⟩) 64 64)).run Tryz.prog w1 = .ok (.string ⟨R.toArray⟩) w1 := by
  have h := run_convert_bytes_back w1 22 9 5 ⟨b, 8, none⟩ 64 R Tryz.underlying22 Tryz.underlying5 Tryz.underlying9 (fun j hj => by
   rw [addr_add, cell_of_row _ _ _ _ _ _ hc1, List.getElem?_toArray]
   exact stCells_rest e R _ HRl.out j (by rw [HRl.out] at hj; exact hj))
  rw [HRl.out] at h
  exact h
 have HT1 := Lib.hid (take_ok b e HE.out R (n + s.size) ⟨R.toArray⟩ (by show R.toArray.size ≤ _; rw [List.size_toArray, HRl.out]; omega) w1 hG1 Hb2.out hc1)
 have HF1 := Lib.hid hf1
 clear hf1 hc1 hG1
 go_wp2_with (first | (refine wpList_run rfl _ (exec_slice40_all (.tmp 47) rfl b rfl _) ?_) | fail)
 refine HT1.out.mono ?_
 rintro e0 w2 ⟨⟨v0, rfl⟩, hf2, hw2⟩
 have hmR : mids e (⟨R.toArray⟩ : ByteArray).data.toList ((⟨R.toArray⟩ : ByteArray).size / 64) = mids e R 1 := by
  have h1 : (⟨R.toArray⟩ : ByteArray).size / 64 = 1 := by show R.toArray.size / 64 = 1; rw [List.size_toArray, HRl.out]
  rw [h1]
 rw [hmR] at hw2
 obtain ⟨e1, he1⟩ : ∃ e1, Hid (e1 = mids e R 1) := ⟨_, Lib.hid rfl⟩
 rw [← he1.out] at hw2
 have he1o : e1.ok := by rw [he1.out]; exact mids_ok HE.out _ _
 have HF2 := Lib.hid (HF1.out.trans hf2)
 have HT := Lib.hid (take_ok b e1 he1o R (n + s.size) s2 hs2s w2 (glob_fr HGw.out Hb2.out HF2.out) Hb2.out hw2)
 clear hf2 hw2 hmR HT1 HF1 he1o hcv
 go_wp2_with fail
 rw [HS2.out]
 refine HT.out.mono ?_
 rintro e0 w3 ⟨⟨v, rfl⟩, hf3, hw3⟩
 have HF3 := Lib.hid (HF2.out.trans hf3)
 clear hf3 HT HF2
 obtain ⟨e2, he2⟩ : ∃ e2, Hid (e2 = mids e1 s2.data.toList (s2.size / 64)) := ⟨_, Lib.hid rfl⟩
 rw [← he2.out] at hw3
 obtain ⟨rb2, hrb2⟩ : ∃ rb2, Hid (rb2 = R) := ⟨_, Lib.hid rfl⟩
 have hr2 : rb2.length = 64 := by rw [hrb2.out]; exact HRl.out
 rw [← hrb2.out] at hw3
 obtain ⟨n2, hn2⟩ : ∃ n2, Hid (n2 = n + s.size) := ⟨_, Lib.hid rfl⟩
 rw [← hn2.out] at hw3
 have hkk : Hid (s2.size % 64 = min (s2.extract (s2.size - s2.size % 64) s2.size).size 64) := by unfold Hid; simp; omega
 have hrow3 : Hid (w3.drew.heap[b]? = some (.cells (stCells (cells e2) (bytesV rb2) n2).toArray 51 (0, 0))) := hw3
 have hfit3 : Hid (8 + s2.size % 64 ≤ (stCells (cells e2) (bytesV rb2) n2).toArray.size) := by unfold Hid; rw [List.size_toArray, stCells_len e2 rb2 _ hr2]; omega
 have hov3 : Hid (splice (stCells (cells e2) (bytesV rb2) n2).toArray 8 (bytesV ((s2.extract (s2.size - s2.size % 64) s2.size).data.toList.take (s2.size % 64))) = (stCells (cells e2) (bytesV (over rb2 0 (s2.data.toList.drop (64 * (s2.size / 64))))) n2).toArray) := by
  unfold Hid
  rw [extract_drop]
  exact stCells_over e2 rb2 n2 0 _ hr2 (by rw [List.length_drop]; show 0 + (s2.size - _) ≤ 64; omega)
 clear hw3 hr2 hne hpos hpos2 hl1 hl2
 go_wp2_with fail
 refine wp_region_any (by kernel_rfl) ?_
 change wpAny _ _ _ _ _ _ _ (World.drew _)
 refine any_take 0 (some 57) (.move (.tmp 0)) (.pointer (some ⟨b, 0, none⟩)) rfl (by kernel_rfl) (by kernel_rfl) (by kernel_rfl) (fun _ _ _ h => h) (fun o ho w => exec_move (.tmp 0) ho _ rfl w) ?_
 simp only [Act.put, sT, sS, sZ]
 refine any_take 1 (some 58) (.nilCheck (.tmp 57)) (.pointer (some ⟨b, 0, none⟩)) rfl (by kernel_rfl) (by kernel_rfl) (by kernel_rfl) (fun _ _ _ h => h) (fun o ho w => exec_nilCheck (.tmp 57) ho ⟨b, 0, none⟩ rfl w) ?_
 simp only [Act.put, sT, sS, sZ]
 refine any_take 2 (some 59) (.fieldAddr 51 (.tmp 58) 1) (.pointer (some ⟨b, 8, none⟩)) rfl (by kernel_rfl) (by kernel_rfl) (by kernel_rfl) (fun _ _ _ h => h) (fun o ho w => exec_fieldAddr42_1 (.tmp 58) ho b rfl w) ?_
 simp only [Act.put, sT, sS, sZ]
 refine any_take 3 (some 60) (.slice 49 (.tmp 59) none none none) (.slice (some ⟨b, 8, none⟩) 64 64) rfl (by kernel_rfl) (by kernel_rfl) (by kernel_rfl) (fun _ _ _ h => h) (fun o ho w => exec_slice40_all (.tmp 59) ho b rfl w) ?_
 simp only [Act.put, sT, sS, sZ]
 refine any_take 4 (some 61) (.move (.tmp 1)) (.string s2) rfl (by kernel_rfl) (by kernel_rfl) (by kernel_rfl) (fun _ _ _ h => h) (fun o ho w => exec_move (.tmp 1) ho _ rfl w) ?_
 simp only [Act.put, sT, sS, sZ]
 refine any_take 5 (some 62) (.move (.tmp 1)) (.string s2) rfl (by kernel_rfl) (by kernel_rfl) (by kernel_rfl) (fun _ _ _ h => h) (fun o ho w => exec_move (.tmp 1) ho _ rfl w) ?_
 simp only [Act.put, sT, sS, sZ]
 refine any_take 6 (some 63) (.call { callee := .builtin .len, args := #[.tmp 62], argTypes := #[9] }) (.int .i64 s2.size) rfl (by kernel_rfl) (by kernel_rfl) (by kernel_rfl) (fun _ _ _ h => h) (fun o ho w => exec_len9 (.tmp 62) ho s2 rfl w) ?_
 simp only [Act.put, sT, sS, sZ]
 refine any_take 7 (some 64) (.move (.tmp 1)) (.string s2) rfl (by kernel_rfl) (by kernel_rfl) (by kernel_rfl) (fun _ _ _ h => h) (fun o ho w => exec_move (.tmp 1) ho _ rfl w) ?_
 simp only [Act.put, sT, sS, sZ]
 refine any_take 8 (some 65) (.call { callee := .builtin .len, args := #[.tmp 64], argTypes := #[9] }) (.int .i64 s2.size) rfl (by kernel_rfl) (by kernel_rfl) (by kernel_rfl) (fun _ _ _ h => h) (fun o ho w => exec_len9 (.tmp 64) ho s2 rfl w) ?_
 simp only [Act.put, sT, sS, sZ]
 refine any_take 9 (some 66) (.binOp .rem 3 (.tmp 65) (.const (.int .i64 64)) 3) (.int .i64 ((s2.size % 64 : Nat) : Int)) rfl (by kernel_rfl) (by kernel_rfl) (by kernel_rfl) (fun _ _ _ h => h) (fun o ho w => exec_rem64 (.tmp 65) ho rfl s2.size (by omega) rfl w) ?_
 simp only [Act.put, sT, sS, sZ]
 refine any_take 10 (some 67) (.binOp .sub 3 (.tmp 63) (.tmp 66) 3) (.int .i64 ((s2.size - s2.size % 64 : Nat) : Int)) rfl (by kernel_rfl) (by kernel_rfl) (by kernel_rfl) (fun _ _ _ h => h) (fun o ho w => exec_subk (.tmp 63) (.tmp 66) ho s2.size (s2.size % 64) (by omega) (Nat.mod_le _ _) rfl rfl w) ?_
 simp only [Act.put, sT, sS, sZ]
 refine any_take 11 (some 68) (.slice 9 (.tmp 61) (some (.tmp 67)) none none) (.string (s2.extract (s2.size - s2.size % 64) s2.size)) rfl (by kernel_rfl) (by kernel_rfl) (by kernel_rfl) (fun _ _ _ h => h) (fun o ho w => exec_sliceFrom (.tmp 61) (.tmp 67) ho s2 _ (Nat.sub_le _ _) rfl rfl w) ?_
 simp only [Act.put, sT, sS, sZ]
 refine any_one 12 (some 69) (.call { callee := .builtin .copy, args := #[.tmp 60, .tmp 68], argTypes := #[22, 9] }) (by kernel_rfl) rfl _ (fun o ho => exec_copy_any (w3.drew) (.tmp 60) (.tmp 68) 22 9 5 ho b 8 64 64 _ (s2.size % 64) hkk.out _ 51 rfl rfl Tryz.underlying22 size5 hrow3.out hfit3.out) ?_
 simp only [Act.put, sT, sS, sZ]
 refine wpAny_done (by kernel_rfl) ?_ _
 go_wp2
 refine bodyPost_end (results_none rfl _ _ _) rfl ?_
 refine ⟨⟨_, rfl⟩, Fr.setRow (S := fun k => k = b) HF3.out.drew rfl _, ?_⟩
 rw [setRow_heap _ _ _ _ _ _ hrow3.out, hov3.out, he2.out, he1.out, hrb2.out, hn2.out]
end Go.Proofs.YtdbbcngolcnniaaGreatDoor.S3
/- Write, Sum and Len of a state of package sha, and Sum of a text: the hash of the arithmetic. Up to a million bytes; the tables of the package stand in memory. -/
namespace Go.Proofs.YtdbbcngolcnniaaGreatDoor.S3
set_option linter.unusedSimpArgs false
open Go.RowKit
set_option linter.unusedVariables false
theorem rep_done {w : World} {b : Nat} (A s2 : List UInt8) (rb : List UInt8) (hr : rb.length = 64) (hA : A.length % 64 = 0) (m : Nat) (hm : m = A.length + s2.length) (e1 : St) (he1 : e1 = mids h0 A (A.length / 64))
  (hrow : w.heap[b]? = some (.cells (stCells (cells (mids e1 s2 (s2.length / 64))) (bytesV (over rb 0 (s2.drop (64 * (s2.length / 64))))) m).toArray 51 (0, 0))) : StRep w b (A ++ s2) := by
 subst hm he1
 have hd : (s2.drop (64 * (s2.length / 64))).length = s2.length % 64 := by rw [List.length_drop]; omega
 have hT : (A ++ s2).length / 64 = A.length / 64 + s2.length / 64 := by rw [List.length_append]; omega
 refine ⟨mids (mids h0 A (A.length / 64)) s2 (s2.length / 64), over rb 0 (s2.drop (64 * (s2.length / 64))), ?_, over_length rb 0 _ (by rw [hd, hr]; omega) |>.trans hr, mids_ok (mids_ok h0_ok _ _) _ _, fun _ => ?_, ?_⟩
 ·rw [List.length_append]; exact hrow
 ·rw [hT, mids_split, mids_prefix h0 A s2 _ (by omega), show 64 * (A.length / 64) = A.length by omega, List.drop_left]
 ·rw [hT, show (A ++ s2).length % 64 = s2.length % 64 by rw [List.length_append]; omega, show 64 * (A.length / 64 + s2.length / 64) = A.length + 64 * (s2.length / 64) by omega, ← List.drop_drop, List.drop_left]
  unfold over
  rw [List.take_zero, List.nil_append, List.take_append_of_le_length (by rw [hd]; exact Nat.le_refl _), List.take_of_length_le (by rw [hd]; exact Nat.le_refl _)]
theorem write_ok {w : World} {b : Nat} {l : List UInt8} (h : StRep w b l) (s : ByteArray) (hl : l.length ≤ 1000000) (hs : s.size ≤ 1000000) (hG : Glob w) (hb2 : 2 ≤ b) :
  Calls Tryz.prog 17 #[.pointer (some ⟨b, 0, none⟩), .string s] w fun e0 w' => (∃ v, e0 = .returned v) ∧ Fr (fun k => k = b) w w' ∧ StRep w' b (l ++ s.data.toList) := by
 obtain ⟨e, rb, hc, hr, he, hm, ht⟩ := h
 have hsl : s.data.toList.length = s.size := rfl
 by_cases hn : l.length = 0
 ·have hl0 : l = [] := List.eq_nil_of_length_eq_zero hn
  subst hl0
  refine (write_first e rb s hr hs hG hb2 hc).mono ?_
  rintro e0 w' ⟨hv, hf, hrow⟩
  exact ⟨hv, hf, rep_done [] s.data.toList rb hr rfl _ rfl h0 rfl hrow⟩
 ·have hne : l ≠ [] := fun e => hn (by rw [e]; rfl)
  have hme := hm hne
  by_cases h0' : l.length % 64 = 0
  ·refine (write_zero e he rb l.length s hr hl hs h0' hn hG hb2 hc).mono ?_
   rintro e0 w' ⟨hv, hf, hrow⟩
   exact ⟨hv, hf, rep_done l s.data.toList rb hr h0' _ rfl e hme hrow⟩
  ·by_cases hlt : l.length % 64 + s.size < 64
   ·refine (write_short e rb l.length s hr hl hs (by omega) hlt hc).mono ?_
    rintro e0 w' ⟨hv, hf, hrow⟩
    have hq : (l ++ s.data.toList).length / 64 = l.length / 64 := by rw [List.length_append, hsl]; omega
    have hq2 : (l ++ s.data.toList).length % 64 = l.length % 64 + s.size := by rw [List.length_append, hsl]; omega
    refine ⟨hv, hf, e, over rb (l.length % 64) s.data.toList, ?_, (over_length rb (l.length % 64) s.data.toList (by rw [hr, hsl]; omega)).trans hr, he, fun _ => ?_, ?_⟩
    ·rw [List.length_append, hsl]; exact hrow
    ·rw [hq, mids_prefix h0 l _ _ (by omega)]; exact hme
    ·rw [hq, hq2, List.drop_append_of_le_length (by omega), ← ht]
     unfold over
     rw [List.take_append_of_le_length (by rw [List.length_append, List.length_take, hr, hsl]; omega), List.take_of_length_le (by rw [List.length_append, List.length_take, hr, hsl]; omega)]
   ·obtain ⟨h, hh⟩ : ∃ h, h = l.length % 64 := ⟨_, rfl⟩
    have hk : (s.data.toList.take (64 - h)).length = 64 - h := by rw [List.length_take, hsl]; omega
    have hs2 : (s.extract (64 - h) s.size).data.toList = s.data.toList.drop (64 - h) := by
     rw [ByteArray.data_extract, Array.toList_extract, List.extract_eq_take_drop]
     exact List.take_of_length_le (by rw [List.length_drop, hsl]; exact Nat.le_refl _)
    have hs2l : (s.extract (64 - h) s.size).size = (s.data.toList.drop (64 - h)).length := by rw [← hs2]; rfl
    refine (write_long e he rb l.length s (s.extract (64 - l.length % 64) s.size) hr hl hs (by omega) (by omega) rfl _ rfl hG hb2 hc).mono ?_
    rintro e0 w' ⟨hv, hf, hrow⟩
    rw [← hh, hs2, hs2l] at hrow
    have hRl : (over rb h (s.data.toList.take (64 - h))).length = 64 := (over_length rb _ _ (by rw [hr, hk]; omega)).trans hr
    have hA : l ++ s.data.toList = (l ++ s.data.toList.take (64 - h)) ++ s.data.toList.drop (64 - h) := by rw [List.append_assoc, List.take_append_drop]
    rw [hA]
    refine ⟨hv, hf, rep_done _ _ _ hRl (by rw [List.length_append, hk]; omega) _ (by rw [List.length_append, hk, List.length_drop, hsl]; omega) _ ?_ hrow⟩
    have h1 : (l ++ s.data.toList.take (64 - h)).length / 64 = l.length / 64 + 1 := by rw [List.length_append, hk]; omega
    rw [h1, mids_split, mids_prefix h0 l _ _ (by omega), ← hme, List.drop_append_of_le_length (by omega), ← ht]
    congr 1
    unfold over
    rw [← hh, List.drop_eq_nil_of_le (by rw [hr, hk]; omega), List.append_nil]
theorem st_len {w : World} {b : Nat} {l : List UInt8} (h : StRep w b l) : w.cell? ⟨b, 72, none⟩ = some (.int .i64 l.length) := by
 obtain ⟨e, rb, hc, hr, -⟩ := h
 rw [cell_of_row _ _ _ _ _ _ hc, List.getElem?_toArray]
 exact stCells_n e rb _ hr
theorem st_below {w w' : World} {b : Nat} {l : List UInt8} (h : StRep w b l) (hb : Below w.heap.size w w') : StRep w' b l := by
 obtain ⟨e, rb, hc, h2⟩ := h
 exact ⟨e, rb, (hb.block b (lt_of_block hc)).trans hc, h2⟩
theorem st_new (w : World) : StRep (w.alloc (.cells stZero.toArray 51)) w.heap.size [] :=
 ⟨s0, List.replicate 64 0, by rw [heap_alloc_new w _]; rfl, rfl, by unfold St.ok s0; decide, fun h => absurd rfl h, rfl⟩
theorem tell_to (s : St) : tellTo s.at 8 = tell s := by simp [tellTo, tell, St.at]
set_option maxRecDepth 100000 in
set_option maxHeartbeats 1000000 in
theorem sum_ok {w : World} {b : Nat} {l : List UInt8} (h : StRep w b l) (hl : l.length ≤ 900000) (hG : Glob w) :
  Calls Tryz.prog 22 #[.pointer (some ⟨b, 0, none⟩)] w fun e0 w' => e0 = .returned (.string ⟨(sha l).toArray⟩) ∧ Below w.heap.size w w' := by
 have c72 := st_len h
 obtain ⟨e, rb, hc, hr, he, hm, ht⟩ := h
 obtain ⟨cs, hcs⟩ : ∃ cs, Hid (cs = stCells (cells e) (bytesV rb) l.length) := ⟨_, Lib.hid rfl⟩
 have hrow := hc
 rw [← hcs.out] at hrow
 have hseg : Hid (∀ j v, cs[j]? = some v → w.cell? ⟨b, 0 + j, none⟩ = some v) := by
  intro j v hv
  rw [cell_of_row _ _ _ _ _ _ hrow, Nat.zero_add, List.getElem?_toArray, hv]
 have hlen : cs.length = 73 := by rw [hcs.out]; exact stCells_len e rb _ hr
 have hsz : Hid ((Tryz.prog.info? 51).map (·.size) = some cs.length) := by unfold Hid; rw [hlen]; kernel_rfl
 have hone : Hid (∀ v ∈ cs, v.oneCell' = true) := by
  unfold Hid
  rw [hcs.out]
  intro v hv
  unfold stCells at hv
  rcases List.mem_append.1 hv with h | h
  ·exact cells_one _ v h
  ·rcases List.mem_append.1 h with h | h
   ·unfold bytesV at h
    obtain ⟨x, _, rfl⟩ := List.mem_map.1 h
    rfl
   ·rcases List.mem_singleton.1 h with rfl
    rfl
 have hfit : Hid (stZero.toArray.size = cs.length) := by unfold Hid; rw [hlen]; rfl
 have hrep : StRep (w.alloc (.cells cs.toArray 51)) w.heap.size l := ⟨e, rb, by rw [heap_alloc_new w _, hcs.out], hr, he, hm, ht⟩
 have hb1 : Below w.heap.size w (w.alloc (.cells cs.toArray 51)) := (Below.refl _ w).alloc (Nat.le_refl _) _
 have hbN := lt_of_block hc
 have HG := Lib.hid (hG.below hb1)
 have HREP := Lib.hid hrep
 have HB1 := Lib.hid hb1
 have HN2 := Lib.hid hG.two
 have c72' : Hid ((w.alloc (.cells cs.toArray 51)).cell? ⟨b, 72, none⟩ = some (.int .i64 l.length)) := by
  unfold Hid
  rw [hb1.cell (p := ⟨b, 72, none⟩) hbN]; exact c72
 have HT := Lib.hid (fun w => tail_any l.length (by omega) w)
 clear hc hrow hrep hb1 hr he hm ht hlen hG c72 hcs
 go_enter Tryz.func22, Tryz.ntmps22
 go_upto_region 4 with (first | (refine wpList_load_seg rfl 51 (.tmp 7) rfl b 0 rfl cs _ hseg.out Tryz.underlying51 rfl hsz.out ?_) | (refine wpList_run rfl _ (exec_alloc_agg _ 51 rfl _ (zero42 _)) ?_) | (refine wpList_run0 rfl (exec_store_new w 51 (.tmp 3) (.tmp 8) rfl _ 51 rfl cs rfl hfit.out hone.out hsz.out) ?_))
 obtain ⟨w1, hw1⟩ : ∃ w1, w1 = w.alloc (.cells cs.toArray 51) := ⟨_, rfl⟩
 rw [← hw1] at HG HREP HB1 c72' ⊢
 clear hw1 hseg hsz hone hfit
 have c := c72'.out
 clear c72'
 go_wp2_with fail
 refine (HT.out _).mono ?_
 rintro e0 w2 ⟨rfl, hb2⟩
 have HREP2 := Lib.hid (st_below HREP.out hb2)
 have HG2 := Lib.hid (HG.out.below hb2)
 have HB2 := Lib.hid (HB1.out.trans (hb2.mono HB1.out.size))
 clear hb2 c HREP HG HB1 HT
 go_wp2_with fail
 refine (write_ok HREP2.out _ (by omega) (by show (tailN l.length).toArray.size ≤ _; rw [List.size_toArray]; unfold tailN; simp [be8]; have := fill_lt l.length; omega) HG2.out HN2.out).mono ?_
 rintro e0 w3 ⟨⟨v, rfl⟩, hf, hrep3⟩
 have HB3 := Lib.hid (HB2.out.trans (hf.below HB2.out.size (fun k hk e => by omega)))
 obtain ⟨e3, rb3, hc3, hr3, he3, hm3, -⟩ := hrep3
 have hpad : (l ++ (⟨(tailN l.length).toArray⟩ : ByteArray).data.toList) = pad l := rfl
 rw [hpad] at hc3 hm3
 have hsha : tellTo e3.at 8 = sha l := by
  rw [tell_to, hm3 (by unfold pad tailN; simp)]
  rfl
 have hseg : Hid (∀ j v, (cells e3)[j]? = some v → w3.cell? ⟨w.heap.size, 0 + j, none⟩ = some v) := by
  intro j v hv
  rw [cell_of_row _ _ _ _ _ _ hc3, Nat.zero_add, List.getElem?_toArray]
  unfold stCells
  rw [List.getElem?_append_left (by
    rcases Nat.lt_or_ge j (cells e3).length with h | h
    ·exact h
    ·rw [List.getElem?_eq_none h] at hv; cases hv)]
  exact hv
 have hsz : Hid ((Tryz.prog.info? 48).map (·.size) = some (cells e3).length) := Lib.hid (size42f _ rfl)
 have HTOLD := Lib.hid (told_any e3.at (fun j => St.at_lt he3 j) w3)
 rw [hsha, ← cells_row] at HTOLD
 clear hc3 hm3 hsha hf hr3 he3 hpad
 go_wp2_with (refine wpList_load_seg rfl 48 (.tmp 15) rfl w.heap.size 0 rfl (cells e3) _ hseg.out Tryz.underlying48 rfl hsz.out ?_)
 refine HTOLD.out.mono ?_
 rintro e0 w4 ⟨rfl, hb4⟩
 have HB4 := Lib.hid (HB3.out.trans (hb4.mono HB3.out.size))
 clear hb4
 go_wp2
 go_ret
 exact ⟨rfl, HB4.out⟩
set_option maxHeartbeats 1000000 in
theorem sum_any (s : ByteArray) (hs : s.size ≤ 900000) (w : World) (hG : Glob w) :
  Calls Tryz.prog 31 #[.string s] w fun e0 w' => e0 = .returned (.string ⟨(sha s.data.toList).toArray⟩) ∧ Below w.heap.size w w' := by
 have HN := Lib.hid (st_new w)
 have hb1 : Below w.heap.size w (w.alloc (.cells stZero.toArray 51)) := (Below.refl _ w).alloc (Nat.le_refl _) _
 have HW := Lib.hid (write_ok HN.out s (by simp) (by omega) (hG.below hb1) hG.two)
 have HB1 := Lib.hid hb1
 have HG := Lib.hid (hG.below hb1)
 have H2 := Lib.hid hG.two
 clear hb1 hG
 go_enter Tryz.func31, Tryz.ntmps31
 go_wp2_with (refine wpList_run rfl _ (exec_alloc_agg _ 51 rfl _ (zero42 _)) ?_)
 refine HW.out.mono ?_
 rintro e0 w2 ⟨⟨v, rfl⟩, hf, hrep⟩
 have HREP := Lib.hid hrep
 have HG2 := Lib.hid (glob_fr HG.out H2.out hf)
 have HB2 := Lib.hid (HB1.out.trans (hf.below HB1.out.size (fun k hk e => by omega)))
 clear hf hrep HW HG HN
 go_wp2_with fail
 refine (sum_ok HREP.out (by simpa using hs) HG2.out).mono ?_
 rintro e0 w3 ⟨rfl, hb3⟩
 have HB3 := Lib.hid (HB2.out.trans (hb3.mono HB2.out.size))
 clear hb3
 go_wp2
 go_ret
 exact ⟨rfl, HB3.out⟩
end Go.Proofs.YtdbbcngolcnniaaGreatDoor.S3
