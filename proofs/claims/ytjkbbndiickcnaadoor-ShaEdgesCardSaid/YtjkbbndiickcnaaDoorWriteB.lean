/- What Write of package sha does to a state that lies in memory: the first bytes; more than a block's rest. -/
import Derived.Test.YtjkbbndiickcnaaDoorWrite
import Derived.Deep.CutBlock
import Derived.Deep.DeepCutAuto
namespace Go.Proofs.YtjkbbndiickcnaaDoor
open Go.RowKit
set_option linter.unusedVariables false

set_option maxRecDepth 100000 in
set_option maxHeartbeats 1000000 in
theorem write_first {w : World} {b : Nat} (e : St) (rb : List UInt8) (s : ByteArray) (hr : rb.length = 64) (hs : s.size ≤ 1000000)  (hG : Glob w) (hb2 : 2 ≤ b)
    (hc : w.heap[b]? = some (.cells (stCells (cells e) (bytesV rb) 0).toArray 42 (0, 0))) :
    Calls Tryd.prog 14 #[.pointer (some ⟨b, 0, none⟩), .string s] w fun e0 w' => (∃ v, e0 = .returned v) ∧ Fr (fun k => k = b) w w' ∧ w'.heap[b]? = some (.cells (stCells (cells (mids h0 s.data.toList (s.size / 64))) (bytesV (over rb 0 (s.data.toList.drop (64 * (s.size / 64))))) (0 + s.size)).toArray 42 (0, 0)) := by
  have c72 : w.cell? ⟨b, 72, none⟩ = some (.int .i64 0) := by rw [cell_of_row _ _ _ _ _ _ hc, List.getElem?_toArray]; exact stCells_n e rb 0 hr
  have hseg : Hid (∀ j v, (cells h0)[j]? = some v → w.cell? ⟨1, 0 + j, none⟩ = some v) := by
    obtain ⟨_, t, h1⟩ := hG
    intro j v hv
    rw [cell_of_row _ _ _ _ _ _ h1, Nat.zero_add, List.getElem?_toArray, hv]
  have hsz : Hid ((Tryd.prog.info? 39).map (·.size) = some (cells h0).length) := Lib.hid (size42f _ rfl)
  have hone : Hid (∀ v ∈ cells h0, v.oneCell' = true) := Lib.hid (cells_one _)
  have hfit : Hid (0 + (cells h0).length ≤ (stCells (cells e) (bytesV rb) 0).toArray.size) := by unfold Hid; rw [List.size_toArray, stCells_len e rb _ hr]; show 0 + 8 ≤ 73; omega
  have HC := Lib.hid hc
  have HGw := Lib.hid hG
  have HR := Lib.hid hr
  clear hc hG hr
  go_enter Tryd.func14, Tryd.ntmps14
  go_upto_region 3 with (first | (refine wpList_load_seg rfl 39 (.global 1) rfl 1 0 rfl (cells h0) _ hseg.out Tryd.underlying39 rfl hsz.out ?_) | (refine wpList_store_seg rfl 39 (.tmp 16) (.tmp 14) rfl b 0 rfl (cells h0) rfl _ 42 HC.out hfit.out hone.out hsz.out ?_))
  rw [stCells_head e h0 rb 0]
  have hf0 : Fr (fun k => k = b) w (w.setRow b (stCells (cells h0) (bytesV rb) 0).toArray) := Fr.setRow (S := fun k => k = b) (Fr.refl _ w) rfl _
  have hc : (w.setRow b (stCells (cells h0) (bytesV rb) 0).toArray).heap[b]? = some (.cells (stCells (cells h0) (bytesV rb) 0).toArray 42 (0, 0)) := setRow_heap _ _ _ _ _ _ HC.out
  obtain ⟨w1, hw1⟩ : ∃ w1, w1 = w.setRow b (stCells (cells h0) (bytesV rb) 0).toArray := ⟨_, rfl⟩
  rw [← hw1] at hf0 hc ⊢
  clear hw1 c72 hseg hsz hone hfit HC
  have hG := glob_fr HGw.out hb2 hf0
  have hr := HR.out
  clear HGw HR
  have c72 : w1.cell? ⟨b, 72, none⟩ = some (.int .i64 0) := by rw [cell_of_row _ _ _ _ _ _ hc, List.getElem?_toArray]; exact stCells_n h0 rb 0 hr
  have f72 : w1.frozen? ⟨b, 72, none⟩ = false := by simp [World.frozen?, hc]
  have hf1 : Fr (fun k => k = b) w (w1.setCell ⟨b, 72, none⟩ (.int .i64 (s.size : Int))) := Fr.setCell (S := fun k => k = b) (p := ⟨b, 72, none⟩) hf0 rfl _
  have hrow1 : (w1.setCell ⟨b, 72, none⟩ (.int .i64 (s.size : Int))).heap[b]? = some (.cells (stCells (cells h0) (bytesV rb) (0 + s.size)).toArray 42 (0, 0)) := by
    rw [heap_setCell_same w1 b 72 _ 42 _ hc, Nat.zero_add, ← stCells_setN h0 rb 0 s.size hr]
  have hG1 := hG.two
  have HT := Lib.hid (take_ok b h0 h0_ok rb (0 + s.size) s hs _ (glob_fr hG hb2 (Fr.setCell (S := fun k => k = b) (p := ⟨b, 72, none⟩) (Fr.refl _ w1) rfl _)) hb2 hrow1)
  have HF1 := Lib.hid hf1
  have hs9 : s.size ≤ 9223372036854775807 := by omega
  clear hf1 hrow1 hc hG hb2 hG1 hf0
  go_wp2_with fail
  refine HT.out.mono ?_
  rintro e0 w3 ⟨⟨v, rfl⟩, hf3, hw3⟩
  have HF3 := Lib.hid (HF1.out.trans hf3)
  clear hf3 HT HF1
  obtain ⟨e2, he2⟩ : ∃ e2, Hid (e2 = mids h0 s.data.toList (s.size / 64)) := ⟨_, Lib.hid rfl⟩
  rw [← he2.out] at hw3
  obtain ⟨rb2, hrb2⟩ : ∃ rb2, Hid (rb2 = rb) := ⟨_, Lib.hid rfl⟩
  rw [← hrb2.out] at hr hw3
  have hr2 := hr
  obtain ⟨n2, hn2⟩ : ∃ n2, Hid (n2 = 0 + s.size) := ⟨_, Lib.hid rfl⟩
  rw [← hn2.out] at hw3
  have hkk : Hid (s.size % 64 = min (s.extract (s.size - s.size % 64) s.size).size 64) := by unfold Hid; simp; omega
  have hrow3 : Hid (w3.drew.heap[b]? = some (.cells (stCells (cells e2) (bytesV rb2) n2).toArray 42 (0, 0))) := hw3
  have hfit3 : Hid (8 + s.size % 64 ≤ (stCells (cells e2) (bytesV rb2) n2).toArray.size) := by unfold Hid; rw [List.size_toArray, stCells_len e2 rb2 _ hr2]; omega
  have hov3 : Hid (splice (stCells (cells e2) (bytesV rb2) n2).toArray 8 (bytesV ((s.extract (s.size - s.size % 64) s.size).data.toList.take (s.size % 64))) = (stCells (cells e2) (bytesV (over rb2 0 (s.data.toList.drop (64 * (s.size / 64))))) n2).toArray) := by
    unfold Hid
    rw [extract_drop]
    exact stCells_over e2 rb2 n2 0 _ hr2 (by rw [List.length_drop]; show 0 + (s.size - _) ≤ 64; omega)
  clear hw3 hr hr2 c72 f72
  go_wp2_with fail
  refine wp_region_any (by kernel_rfl) ?_
  change wpAny _ _ _ _ _ _ _ (World.drew _)
  refine any_take 0 (some 57) (.move (.tmp 0)) (.pointer (some ⟨b, 0, none⟩)) rfl (by kernel_rfl) (by kernel_rfl) (by kernel_rfl) (fun _ _ _ h => h) (fun o ho w => exec_move (.tmp 0) ho _ rfl w) ?_
  simp only [Act.put, List.setIfInBounds_toArray, List.set_cons_succ, List.set_cons_zero]
  refine any_take 1 (some 58) (.nilCheck (.tmp 57)) (.pointer (some ⟨b, 0, none⟩)) rfl (by kernel_rfl) (by kernel_rfl) (by kernel_rfl) (fun _ _ _ h => h) (fun o ho w => exec_nilCheck (.tmp 57) ho ⟨b, 0, none⟩ rfl w) ?_
  simp only [Act.put, List.setIfInBounds_toArray, List.set_cons_succ, List.set_cons_zero]
  refine any_take 2 (some 59) (.fieldAddr 42 (.tmp 58) 1) (.pointer (some ⟨b, 8, none⟩)) rfl (by kernel_rfl) (by kernel_rfl) (by kernel_rfl) (fun _ _ _ h => h) (fun o ho w => exec_fieldAddr42_1 (.tmp 58) ho b rfl w) ?_
  simp only [Act.put, List.setIfInBounds_toArray, List.set_cons_succ, List.set_cons_zero]
  refine any_take 3 (some 60) (.slice 40 (.tmp 59) none none none) (.slice (some ⟨b, 8, none⟩) 64 64) rfl (by kernel_rfl) (by kernel_rfl) (by kernel_rfl) (fun _ _ _ h => h) (fun o ho w => exec_slice40_all (.tmp 59) ho b rfl w) ?_
  simp only [Act.put, List.setIfInBounds_toArray, List.set_cons_succ, List.set_cons_zero]
  refine any_take 4 (some 61) (.move (.tmp 1)) (.string s) rfl (by kernel_rfl) (by kernel_rfl) (by kernel_rfl) (fun _ _ _ h => h) (fun o ho w => exec_move (.tmp 1) ho _ rfl w) ?_
  simp only [Act.put, List.setIfInBounds_toArray, List.set_cons_succ, List.set_cons_zero]
  refine any_take 5 (some 62) (.move (.tmp 1)) (.string s) rfl (by kernel_rfl) (by kernel_rfl) (by kernel_rfl) (fun _ _ _ h => h) (fun o ho w => exec_move (.tmp 1) ho _ rfl w) ?_
  simp only [Act.put, List.setIfInBounds_toArray, List.set_cons_succ, List.set_cons_zero]
  refine any_take 6 (some 63) (.call { callee := .builtin .len, args := #[.tmp 62], argTypes := #[9] }) (.int .i64 s.size) rfl (by kernel_rfl) (by kernel_rfl) (by kernel_rfl) (fun _ _ _ h => h) (fun o ho w => exec_len9 (.tmp 62) ho s rfl w) ?_
  simp only [Act.put, List.setIfInBounds_toArray, List.set_cons_succ, List.set_cons_zero]
  refine any_take 7 (some 64) (.move (.tmp 1)) (.string s) rfl (by kernel_rfl) (by kernel_rfl) (by kernel_rfl) (fun _ _ _ h => h) (fun o ho w => exec_move (.tmp 1) ho _ rfl w) ?_
  simp only [Act.put, List.setIfInBounds_toArray, List.set_cons_succ, List.set_cons_zero]
  refine any_take 8 (some 65) (.call { callee := .builtin .len, args := #[.tmp 64], argTypes := #[9] }) (.int .i64 s.size) rfl (by kernel_rfl) (by kernel_rfl) (by kernel_rfl) (fun _ _ _ h => h) (fun o ho w => exec_len9 (.tmp 64) ho s rfl w) ?_
  simp only [Act.put, List.setIfInBounds_toArray, List.set_cons_succ, List.set_cons_zero]
  refine any_take 9 (some 66) (.binOp .rem 3 (.tmp 65) (.const (.int .i64 64)) 3) (.int .i64 ((s.size % 64 : Nat) : Int)) rfl (by kernel_rfl) (by kernel_rfl) (by kernel_rfl) (fun _ _ _ h => h) (fun o ho w => exec_rem64 (.tmp 65) ho rfl s.size (by omega) rfl w) ?_
  simp only [Act.put, List.setIfInBounds_toArray, List.set_cons_succ, List.set_cons_zero]
  refine any_take 10 (some 67) (.binOp .sub 3 (.tmp 63) (.tmp 66) 3) (.int .i64 ((s.size - s.size % 64 : Nat) : Int)) rfl (by kernel_rfl) (by kernel_rfl) (by kernel_rfl) (fun _ _ _ h => h) (fun o ho w => exec_subk (.tmp 63) (.tmp 66) ho s.size (s.size % 64) (by omega) (Nat.mod_le _ _) rfl rfl w) ?_
  simp only [Act.put, List.setIfInBounds_toArray, List.set_cons_succ, List.set_cons_zero]
  refine any_take 11 (some 68) (.slice 9 (.tmp 61) (some (.tmp 67)) none none) (.string (s.extract (s.size - s.size % 64) s.size)) rfl (by kernel_rfl) (by kernel_rfl) (by kernel_rfl) (fun _ _ _ h => h) (fun o ho w => exec_sliceFrom (.tmp 61) (.tmp 67) ho s _ (Nat.sub_le _ _) rfl rfl w) ?_
  simp only [Act.put, List.setIfInBounds_toArray, List.set_cons_succ, List.set_cons_zero]
  refine any_one 12 (some 69) (.call { callee := .builtin .copy, args := #[.tmp 60, .tmp 68], argTypes := #[30, 9] }) (by kernel_rfl) rfl _ (fun o ho => exec_copy_any (w3.drew) (.tmp 60) (.tmp 68) 30 9 5 ho b 8 64 64 _ (s.size % 64) hkk.out _ 42 rfl rfl Tryd.underlying30 size5 hrow3.out hfit3.out) ?_
  simp only [Act.put, List.setIfInBounds_toArray, List.set_cons_succ, List.set_cons_zero]
  refine wpAny_done (by kernel_rfl) ?_ _
  go_wp2
  refine bodyPost_end (results_none rfl _ _ _) rfl ?_
  refine ⟨⟨_, rfl⟩, Fr.setRow (S := fun k => k = b) HF3.out.drew rfl _, ?_⟩
  rw [setRow_heap _ _ _ _ _ _ hrow3.out, hov3.out, he2.out, hrb2.out, hn2.out]

set_option maxRecDepth 100000 in
set_option maxHeartbeats 1000000 in
theorem write_long {w : World} {b : Nat} (e : St) (he : e.ok) (rb : List UInt8) (n : Nat) (s s2 : ByteArray) (hr : rb.length = 64) (hn : n ≤ 1000000) (hs : s.size ≤ 1000000) (h0 : 0 < n % 64) (hge : 64 ≤ n % 64 + s.size) (hs2 : s2 = s.extract (64 - n % 64) s.size) (R : List UInt8) (hR : R = over rb (n % 64) (s.data.toList.take (64 - n % 64))) (hG : Glob w) (hb2 : 2 ≤ b)
    (hc : w.heap[b]? = some (.cells (stCells (cells e) (bytesV rb) n).toArray 42 (0, 0))) :
    Calls Tryd.prog 14 #[.pointer (some ⟨b, 0, none⟩), .string s] w fun e0 w' => (∃ v, e0 = .returned v) ∧ Fr (fun k => k = b) w w' ∧ w'.heap[b]? = some (.cells (stCells (cells (mids (mids e R 1) s2.data.toList (s2.size / 64))) (bytesV (over R 0 (s2.data.toList.drop (64 * (s2.size / 64))))) (n + s.size)).toArray 42 (0, 0)) := by
  have c72 : w.cell? ⟨b, 72, none⟩ = some (.int .i64 n) := by rw [cell_of_row _ _ _ _ _ _ hc, List.getElem?_toArray]; exact stCells_n e rb n hr
  have f72 : w.frozen? ⟨b, 72, none⟩ = false := by simp [World.frozen?, hc]
  have hne : ((n : Int) == 0) = false := by rw [beq_eq_false_iff_ne]; omega
  have hm : Hid ((n : Int) % 64 = ((n % 64 : Nat) : Int)) := Lib.hid (by omega)
  have hpos : (0 : Int) < (n : Int) % 64 := by omega
  have hpos2 : decide ((0 : Int) < (n : Int) % 64) = true := by simp; omega
  obtain ⟨k, hk0⟩ : ∃ k, k = 64 - n % 64 := ⟨_, rfl⟩
  have hl1 : ¬ ((n : Int) % 64 + (k : Int) < 64) := by omega
  have hl2 : decide ((n : Int) % 64 + (k : Int) < 64) = false := by simp; omega
  have hks : k ≤ s.size := by omega
  have hksI : (k : Int) ≤ (s.size : Int) := by omega
  have HR2 : Hid ((w.setCell ⟨b, 72, none⟩ (.int .i64 ((n : Int) + (s.size : Int)))).heap[b]? = some (.cells (stCells (cells e) (bytesV rb) (n + s.size)).toArray 42 (0, 0))) := by
    unfold Hid
    rw [heap_setCell_same w b 72 _ 42 _ hc, ← stCells_setN e rb n (n + s.size) hr]
    rfl
  have hk : Hid (k = min s.size (64 - n % 64)) := Lib.hid (by omega)
  have hfit : Hid (8 + n % 64 + k ≤ (stCells (cells e) (bytesV rb) (n + s.size)).toArray.size) := by unfold Hid; rw [List.size_toArray, stCells_len e rb _ hr]; omega
  have hh64 : Hid (n % 64 < 64) := Lib.hid (by omega)
  have htl : (s.data.toList.take k).length = k := by rw [List.length_take]; show min k s.size = k; omega
  have hRl : R.length = 64 := by rw [hR, ← hk0, over_length _ _ _ (by rw [htl]; omega)]; exact hr
  have hov : Hid (splice (stCells (cells e) (bytesV rb) (n + s.size)).toArray (8 + n % 64) (bytesV (s.data.toList.take k)) = (stCells (cells e) (bytesV R) (n + s.size)).toArray) := by
    unfold Hid
    rw [hR, ← hk0]
    exact stCells_over e rb _ _ _ hr (by rw [htl]; omega)
  have HRl := Lib.hid hRl
  have hs9 : s.size ≤ 9223372036854775807 := by omega
  have hs2s : s2.size ≤ 1000000 := by rw [hs2]; simp; omega
  have hs29 : s2.size ≤ 9223372036854775807 := by omega
  have HS2 : Hid (s.extract k s.size = s2) := by unfold Hid; rw [hs2, ← hk0]
  have HC := Lib.hid hc
  have HGw := Lib.hid hG
  have Hb2 := Lib.hid hb2
  have HE := Lib.hid he
  clear hc h0 hge hr hR hRl htl hk0 hs2 hG hb2 he
  go_enter Tryd.func14, Tryd.ntmps14
  go_upto_region 7 with (first | (refine wpList_run rfl _ (exec_slice40 (.tmp 35) (.tmp 36) rfl b (n % 64) hh64.out rfl (congrArg (Value.int .i64) hm.out) _) ?_) | (refine wpList_run rfl _ (exec_copy_any _ (.tmp 37) (.tmp 38) 30 9 5 rfl b (8 + n % 64) (64 - n % 64) (64 - n % 64) s k hk.out _ 42 rfl rfl Tryd.underlying30 size5 HR2.out hfit.out) ?_))
  have hf1 : Fr (fun k => k = b) w ((w.setCell ⟨b, 72, none⟩ (.int .i64 ((n : Int) + (s.size : Int)))).setRow b (stCells (cells e) (bytesV R) (n + s.size)).toArray) := Fr.setRow (S := fun k => k = b) (Fr.setCell (S := fun k => k = b) (p := ⟨b, 72, none⟩) (Fr.refl _ w) rfl _) rfl _
  have hc1 : ((w.setCell ⟨b, 72, none⟩ (.int .i64 ((n : Int) + (s.size : Int)))).setRow b (stCells (cells e) (bytesV R) (n + s.size)).toArray).heap[b]? = some (.cells (stCells (cells e) (bytesV R) (n + s.size)).toArray 42 (0, 0)) := setRow_heap _ _ _ _ _ _ HR2.out
  rw [hov.out]
  obtain ⟨w1, hw1⟩ : ∃ w1, w1 = (w.setCell ⟨b, 72, none⟩ (.int .i64 ((n : Int) + (s.size : Int)))).setRow b (stCells (cells e) (bytesV R) (n + s.size)).toArray := ⟨_, rfl⟩
  rw [← hw1] at hf1 hc1 ⊢
  clear hw1 c72 f72 hov HR2 hfit HC hk
  have hG1 := glob_fr HGw.out Hb2.out hf1
  have hcv : (Go.convert 30 9 (.slice (some ⟨b, 8, none⟩) 64 64)).run Tryd.prog w1 = .ok (.string ⟨R.toArray⟩) w1 := by
    have h := run_convert_bytes_back w1 30 9 5 ⟨b, 8, none⟩ 64 R Tryd.underlying30 Tryd.underlying5 Tryd.underlying9 (fun j hj => by
      rw [addr_add, cell_of_row _ _ _ _ _ _ hc1, List.getElem?_toArray]
      exact stCells_rest e R _ HRl.out j (by rw [HRl.out] at hj; exact hj))
    rw [HRl.out] at h
    exact h
  have HT1 := Lib.hid (take_ok b e HE.out R (n + s.size) ⟨R.toArray⟩ (by show R.toArray.size ≤ _; rw [List.size_toArray, HRl.out]; omega) w1 hG1 Hb2.out hc1)
  have HF1 := Lib.hid hf1
  clear hf1 hc1 hG1
  go_wp2_with (first | (refine wpList_run rfl _ (exec_slice40_all (.tmp 47) rfl b rfl _) ?_) | fail)
  refine HT1.out.mono ?_
  rintro e0 w2 ⟨⟨v0, rfl⟩, hf2, hw2⟩
  have hmR : mids e (⟨R.toArray⟩ : ByteArray).data.toList ((⟨R.toArray⟩ : ByteArray).size / 64) = mids e R 1 := by
    have h1 : (⟨R.toArray⟩ : ByteArray).size / 64 = 1 := by show R.toArray.size / 64 = 1; rw [List.size_toArray, HRl.out]
    rw [h1]
  rw [hmR] at hw2
  obtain ⟨e1, he1⟩ : ∃ e1, Hid (e1 = mids e R 1) := ⟨_, Lib.hid rfl⟩
  rw [← he1.out] at hw2
  have he1o : e1.ok := by rw [he1.out]; exact mids_ok HE.out _ _
  have HF2 := Lib.hid (HF1.out.trans hf2)
  have HT := Lib.hid (take_ok b e1 he1o R (n + s.size) s2 hs2s w2 (glob_fr HGw.out Hb2.out HF2.out) Hb2.out hw2)
  clear hf2 hw2 hmR HT1 HF1 he1o hcv
  go_wp2_with fail
  rw [HS2.out]
  refine HT.out.mono ?_
  rintro e0 w3 ⟨⟨v, rfl⟩, hf3, hw3⟩
  have HF3 := Lib.hid (HF2.out.trans hf3)
  clear hf3 HT HF2
  obtain ⟨e2, he2⟩ : ∃ e2, Hid (e2 = mids e1 s2.data.toList (s2.size / 64)) := ⟨_, Lib.hid rfl⟩
  rw [← he2.out] at hw3
  obtain ⟨rb2, hrb2⟩ : ∃ rb2, Hid (rb2 = R) := ⟨_, Lib.hid rfl⟩
  have hr2 : rb2.length = 64 := by rw [hrb2.out]; exact HRl.out
  rw [← hrb2.out] at hw3
  obtain ⟨n2, hn2⟩ : ∃ n2, Hid (n2 = n + s.size) := ⟨_, Lib.hid rfl⟩
  rw [← hn2.out] at hw3
  have hkk : Hid (s2.size % 64 = min (s2.extract (s2.size - s2.size % 64) s2.size).size 64) := by unfold Hid; simp; omega
  have hrow3 : Hid (w3.drew.heap[b]? = some (.cells (stCells (cells e2) (bytesV rb2) n2).toArray 42 (0, 0))) := hw3
  have hfit3 : Hid (8 + s2.size % 64 ≤ (stCells (cells e2) (bytesV rb2) n2).toArray.size) := by unfold Hid; rw [List.size_toArray, stCells_len e2 rb2 _ hr2]; omega
  have hov3 : Hid (splice (stCells (cells e2) (bytesV rb2) n2).toArray 8 (bytesV ((s2.extract (s2.size - s2.size % 64) s2.size).data.toList.take (s2.size % 64))) = (stCells (cells e2) (bytesV (over rb2 0 (s2.data.toList.drop (64 * (s2.size / 64))))) n2).toArray) := by
    unfold Hid
    rw [extract_drop]
    exact stCells_over e2 rb2 n2 0 _ hr2 (by rw [List.length_drop]; show 0 + (s2.size - _) ≤ 64; omega)
  clear hw3 hr2 hne hpos hpos2 hl1 hl2
  go_wp2_with fail
  refine wp_region_any (by kernel_rfl) ?_
  change wpAny _ _ _ _ _ _ _ (World.drew _)
  refine any_take 0 (some 57) (.move (.tmp 0)) (.pointer (some ⟨b, 0, none⟩)) rfl (by kernel_rfl) (by kernel_rfl) (by kernel_rfl) (fun _ _ _ h => h) (fun o ho w => exec_move (.tmp 0) ho _ rfl w) ?_
  simp only [Act.put, List.setIfInBounds_toArray, List.set_cons_succ, List.set_cons_zero]
  refine any_take 1 (some 58) (.nilCheck (.tmp 57)) (.pointer (some ⟨b, 0, none⟩)) rfl (by kernel_rfl) (by kernel_rfl) (by kernel_rfl) (fun _ _ _ h => h) (fun o ho w => exec_nilCheck (.tmp 57) ho ⟨b, 0, none⟩ rfl w) ?_
  simp only [Act.put, List.setIfInBounds_toArray, List.set_cons_succ, List.set_cons_zero]
  refine any_take 2 (some 59) (.fieldAddr 42 (.tmp 58) 1) (.pointer (some ⟨b, 8, none⟩)) rfl (by kernel_rfl) (by kernel_rfl) (by kernel_rfl) (fun _ _ _ h => h) (fun o ho w => exec_fieldAddr42_1 (.tmp 58) ho b rfl w) ?_
  simp only [Act.put, List.setIfInBounds_toArray, List.set_cons_succ, List.set_cons_zero]
  refine any_take 3 (some 60) (.slice 40 (.tmp 59) none none none) (.slice (some ⟨b, 8, none⟩) 64 64) rfl (by kernel_rfl) (by kernel_rfl) (by kernel_rfl) (fun _ _ _ h => h) (fun o ho w => exec_slice40_all (.tmp 59) ho b rfl w) ?_
  simp only [Act.put, List.setIfInBounds_toArray, List.set_cons_succ, List.set_cons_zero]
  refine any_take 4 (some 61) (.move (.tmp 1)) (.string s2) rfl (by kernel_rfl) (by kernel_rfl) (by kernel_rfl) (fun _ _ _ h => h) (fun o ho w => exec_move (.tmp 1) ho _ rfl w) ?_
  simp only [Act.put, List.setIfInBounds_toArray, List.set_cons_succ, List.set_cons_zero]
  refine any_take 5 (some 62) (.move (.tmp 1)) (.string s2) rfl (by kernel_rfl) (by kernel_rfl) (by kernel_rfl) (fun _ _ _ h => h) (fun o ho w => exec_move (.tmp 1) ho _ rfl w) ?_
  simp only [Act.put, List.setIfInBounds_toArray, List.set_cons_succ, List.set_cons_zero]
  refine any_take 6 (some 63) (.call { callee := .builtin .len, args := #[.tmp 62], argTypes := #[9] }) (.int .i64 s2.size) rfl (by kernel_rfl) (by kernel_rfl) (by kernel_rfl) (fun _ _ _ h => h) (fun o ho w => exec_len9 (.tmp 62) ho s2 rfl w) ?_
  simp only [Act.put, List.setIfInBounds_toArray, List.set_cons_succ, List.set_cons_zero]
  refine any_take 7 (some 64) (.move (.tmp 1)) (.string s2) rfl (by kernel_rfl) (by kernel_rfl) (by kernel_rfl) (fun _ _ _ h => h) (fun o ho w => exec_move (.tmp 1) ho _ rfl w) ?_
  simp only [Act.put, List.setIfInBounds_toArray, List.set_cons_succ, List.set_cons_zero]
  refine any_take 8 (some 65) (.call { callee := .builtin .len, args := #[.tmp 64], argTypes := #[9] }) (.int .i64 s2.size) rfl (by kernel_rfl) (by kernel_rfl) (by kernel_rfl) (fun _ _ _ h => h) (fun o ho w => exec_len9 (.tmp 64) ho s2 rfl w) ?_
  simp only [Act.put, List.setIfInBounds_toArray, List.set_cons_succ, List.set_cons_zero]
  refine any_take 9 (some 66) (.binOp .rem 3 (.tmp 65) (.const (.int .i64 64)) 3) (.int .i64 ((s2.size % 64 : Nat) : Int)) rfl (by kernel_rfl) (by kernel_rfl) (by kernel_rfl) (fun _ _ _ h => h) (fun o ho w => exec_rem64 (.tmp 65) ho rfl s2.size (by omega) rfl w) ?_
  simp only [Act.put, List.setIfInBounds_toArray, List.set_cons_succ, List.set_cons_zero]
  refine any_take 10 (some 67) (.binOp .sub 3 (.tmp 63) (.tmp 66) 3) (.int .i64 ((s2.size - s2.size % 64 : Nat) : Int)) rfl (by kernel_rfl) (by kernel_rfl) (by kernel_rfl) (fun _ _ _ h => h) (fun o ho w => exec_subk (.tmp 63) (.tmp 66) ho s2.size (s2.size % 64) (by omega) (Nat.mod_le _ _) rfl rfl w) ?_
  simp only [Act.put, List.setIfInBounds_toArray, List.set_cons_succ, List.set_cons_zero]
  refine any_take 11 (some 68) (.slice 9 (.tmp 61) (some (.tmp 67)) none none) (.string (s2.extract (s2.size - s2.size % 64) s2.size)) rfl (by kernel_rfl) (by kernel_rfl) (by kernel_rfl) (fun _ _ _ h => h) (fun o ho w => exec_sliceFrom (.tmp 61) (.tmp 67) ho s2 _ (Nat.sub_le _ _) rfl rfl w) ?_
  simp only [Act.put, List.setIfInBounds_toArray, List.set_cons_succ, List.set_cons_zero]
  refine any_one 12 (some 69) (.call { callee := .builtin .copy, args := #[.tmp 60, .tmp 68], argTypes := #[30, 9] }) (by kernel_rfl) rfl _ (fun o ho => exec_copy_any (w3.drew) (.tmp 60) (.tmp 68) 30 9 5 ho b 8 64 64 _ (s2.size % 64) hkk.out _ 42 rfl rfl Tryd.underlying30 size5 hrow3.out hfit3.out) ?_
  simp only [Act.put, List.setIfInBounds_toArray, List.set_cons_succ, List.set_cons_zero]
  refine wpAny_done (by kernel_rfl) ?_ _
  go_wp2
  refine bodyPost_end (results_none rfl _ _ _) rfl ?_
  refine ⟨⟨_, rfl⟩, Fr.setRow (S := fun k => k = b) HF3.out.drew rfl _, ?_⟩
  rw [setRow_heap _ _ _ _ _ _ hrow3.out, hov3.out, he2.out, he1.out, hrb2.out, hn2.out]
end Go.Proofs.YtjkbbndiickcnaaDoor
