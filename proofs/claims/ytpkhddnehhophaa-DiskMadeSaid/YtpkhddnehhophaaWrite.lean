/- What the text of Write of package disk does, step by step, where there is such a sector. No condition but what the law names. -/
import Derived.Test.YtpkhddnehhophaaTurn
import Derived.Deep.RegionLaw
namespace Go.Proofs.Ytpkhddnehhophaa
open Go.RowKit
set_option linter.unusedVariables false

def wrow (x : Int) (s : List UInt8) : List Value := .int .i64 x :: bv s
def z64 : List UInt8 := List.replicate 64 0
theorem wrow_length (x : Int) (s : List UInt8) : (wrow x s).length = s.length + 1 := by simp [wrow, bv_length]
theorem wrow_one (x : Int) (s : List UInt8) : ∀ v ∈ wrow x s, v.oneCell' = true := by
  intro v hv
  simp [wrow] at hv
  rcases hv with rfl | hv
  · rfl
  · exact bv_one s v hv
theorem build67 (x : Int) (w : World) : (Instr.build 67 #[(0, .int .i64 x)]).run Try.prog w = .ok (.agg (wrow x z64).toArray) w := by kernel_rfl
theorem zero67 (w : World) : (zeroValue 67).run Try.prog w = .ok (.agg (wrow 0 z64).toArray) w := by kernel_rfl
theorem size67 : (Try.prog.info? 67).map (·.size) = some 65 := by kernel_rfl
theorem size60 : (Try.prog.info? 60).map (·.size) = some 1 := by kernel_rfl
theorem size5 : (Try.prog.info? 5).map (·.size) = some 1 := by kernel_rfl

theorem splice_wrow (x : Int) (s : List UInt8) (hs : s.length = 64) : splice (wrow x z64).toArray 1 (bv s) = (wrow x s).toArray := by
  unfold splice wrow
  have h : (bv z64).length ≤ (bv s).length := by rw [bv_length, bv_length, hs]; simp [z64]
  simp only [List.take_succ_cons, List.take_zero, List.singleton_append, show 1 + (bv s).length = (bv s).length + 1 by omega, List.drop_succ_cons, List.drop_eq_nil_of_le h, List.append_nil]
theorem z64_length : z64.length = 64 := by simp [z64]

theorem exec_fieldAddr62_1 {ρ : Operand → Value} {o : Oper} (x : Operand) (ho : o.op = .fieldAddr 62 x 1) (b : Nat) (hx : ρ x = .pointer (some ⟨b, 0, none⟩)) (w : World) : (execOp ρ o).run Try.prog w = .ok (.value (.pointer (some ⟨b, 1, none⟩))) w := by
  unfold execOp
  simp [ho, hx, go_sem]
theorem exec_fieldAddr62_0 {ρ : Operand → Value} {o : Oper} (x : Operand) (ho : o.op = .fieldAddr 62 x 0) (b : Nat) (hx : ρ x = .pointer (some ⟨b, 0, none⟩)) (w : World) : (execOp ρ o).run Try.prog w = .ok (.value (.pointer (some ⟨b, 0, none⟩))) w := by
  unfold execOp
  simp [ho, hx, go_sem]
theorem exec_fieldAddr67_1 {ρ : Operand → Value} {o : Oper} (x : Operand) (ho : o.op = .fieldAddr 67 x 1) (b : Nat) (hx : ρ x = .pointer (some ⟨b, 0, none⟩)) (w : World) : (execOp ρ o).run Try.prog w = .ok (.value (.pointer (some ⟨b, 1, none⟩))) w := by
  unfold execOp
  simp [ho, hx, go_sem]
theorem exec_fieldAddr69_1 {ρ : Operand → Value} {o : Oper} (x : Operand) (ho : o.op = .fieldAddr 69 x 1) (b k : Nat) (hx : ρ x = .pointer (some ⟨b, k, none⟩)) (w : World) : (execOp ρ o).run Try.prog w = .ok (.value (.pointer (some ⟨b, k + 64, none⟩))) w := by
  unfold execOp
  simp [ho, hx, go_sem]
theorem exec_indexAddr59 {ρ : Operand → Value} {o : Oper} (x y : Operand) (ho : o.op = .indexAddr 59 x y) (b n i : Nat) (hx : ρ x = .slice (some ⟨b, 0, none⟩) n n) (hy : ρ y = .int .i64 i) (hi : i < n) (w : World) : (execOp ρ o).run Try.prog w = .ok (.value (.pointer (some ⟨b, i * 128, none⟩))) w := by
  unfold execOp
  simp [ho, hx, hy, go_sem, hi]
theorem size59 : (Try.prog.info? 59).map (·.size) = some 1 := by kernel_rfl
set_option maxHeartbeats 1000000 in
theorem write_walk {w W0 : World} {b bs : Nat} (n i : Nat) (s : ByteArray) (fuse : Int) (lv : Value) (R : World → Prop)
    (c0 : w.cell? ⟨b, 0, none⟩ = some (.slice (some ⟨bs, 0, none⟩) n n)) (c1 : w.cell? ⟨b, 1, none⟩ = some lv) (c2 : w.cell? ⟨b, 2, none⟩ = some (.int .i64 fuse)) (c3 : w.cell? ⟨b, 3, none⟩ = some (.bool false))
    (hi : i < n) (hn : n ≤ 4096) (hs : s.size = 64) (hfu : (fuse < 0 ∧ w = W0) ∨ (0 < fuse ∧ w.setCell ⟨b, 2, none⟩ (.int .i64 (fuse - 1)) = W0)) (f2 : w.frozen? ⟨b, 2, none⟩ = false) (hmx : fuse ≤ 9223372036854775807)
    (q1 : Hid ((W0.alloc (.cells (wrow i s.data.toList).toArray 67)).drew.cell? ⟨b, 1, none⟩ = some lv))
    (q2 : Hid (∀ j v, (wrow i s.data.toList)[j]? = some v → (W0.alloc (.cells (wrow i s.data.toList).toArray 67)).drew.cell? ⟨W0.heap.size, 0 + j, none⟩ = some v))
    (q2' : Hid (∀ j v, (wrow i s.data.toList)[j]? = some v → ((W0.alloc (.cells (wrow i s.data.toList).toArray 67)).drew.alloc (.cells (wrow i s.data.toList).toArray 67)).cell? ⟨W0.heap.size, 0 + j, none⟩ = some v))
    (q1' : Hid (((W0.alloc (.cells (wrow i s.data.toList).toArray 67)).drew.alloc (.cells (wrow i s.data.toList).toArray 67)).cell? ⟨b, 1, none⟩ = some lv))
    (v' : Value) (W3 : World)
    (q3 : Hid (∀ (ρ : Operand → Value) (o : Oper) (s' x : Operand), o.op = Op.call { callee := Callee.builtin Builtin.append, args := #[s', x], argTypes := #[60, 60] } → ρ s' = lv → ρ x = .slice (some ⟨(W0.alloc (.cells (wrow i s.data.toList).toArray 67)).drew.heap.size, 0, none⟩) 1 1 → (execOp ρ o).run Try.prog ((W0.alloc (.cells (wrow i s.data.toList).toArray 67)).drew.alloc (.cells (wrow i s.data.toList).toArray 67)) = .ok (.value v') W3))
    (q4 : Hid (v'.oneCell' = true ∧ v'.cells = #[v'])) (q5 : Hid (W3.cell? ⟨b, 1, none⟩ = some lv)) (q6 : Hid (W3.frozen? ⟨b, 1, none⟩ = false))
    (r1 : Hid ((W3.setCell ⟨b, 1, none⟩ v').drew.cell? ⟨b, 0, none⟩ = some (.slice (some ⟨bs, 0, none⟩) n n))) (r2 : Hid (∀ j v, (bv s.data.toList)[j]? = some v → (W3.setCell ⟨b, 1, none⟩ v').drew.cell? ⟨W0.heap.size, 1 + j, none⟩ = some v))
    (cur : Array Value) (r3 : Hid ((W3.setCell ⟨b, 1, none⟩ v').drew.heap[bs]? = some (.cells cur 69 (0, 0)))) (r4 : Hid (i * 128 + 64 + (bv s.data.toList).length ≤ cur.size)) (hR : Hid (R ((W3.setCell ⟨b, 1, none⟩ v').drew.setRow bs (splice cur (i * 128 + 64) (bv s.data.toList))))) :
    Calls Try.prog 15 #[.pointer (some ⟨b, 0, none⟩), .int .i64 i, .string s] w fun e w' => e = .returned (.int .i64 0) ∧ R w' := by
  have K := has_yes b bs n n i w (by omega) (by omega) c0
  have hs1 : ((s.size : Int) != 64) = false := by simp; omega
  have hs2 : s.data.toList.length = 64 := hs
  have hz : Hid ((wrow 0 z64).toArray.size = (wrow i z64).length) := by unfold Hid; simp [wrow_length]
  have hsz : Hid ((Try.prog.info? 67).map (·.size) = some (wrow i z64).length) := by unfold Hid; rw [size67, wrow_length, z64_length]
  have hfit : Hid (1 + s.size ≤ (wrow i z64).toArray.size) := by unfold Hid; rw [List.size_toArray, wrow_length, z64_length]; omega
  have hle : Hid (s.size ≤ 64) := by unfold Hid; omega
  have hsp : Hid (splice (wrow i z64).toArray 1 (s.data.toList.map fun b => .int .u8 (b.toNat : Int)) = (wrow i s.data.toList).toArray) := splice_wrow i s.data.toList hs2
  have hsz67 : Hid ((Try.prog.info? 67).map (·.size) = some (wrow i s.data.toList).length) := by unfold Hid; rw [size67, wrow_length, hs2]
  have hlim : Hid ((wrow (i : Int) s.data.toList).length ≤ 16777216) := by unfold Hid; rw [wrow_length, hs2]; omega
  have hsz65 : Hid ((Try.prog.info? 65).map (·.size) = some (bv s.data.toList).length) := by unfold Hid; rw [size65, bv_length, hs2]
  have HS := Lib.hid hs
  have HS2 := Lib.hid hs2
  clear hs hs2
  rcases hfu with ⟨hfu, hw⟩ | ⟨hfu, hw⟩
  · subst hw
    have hd0 : ((fuse : Int) == 0) = false := by simp; omega
    have hd1 : decide (0 < (fuse : Int)) = false := by simp; omega
    have hW : Hid True := trivial
    go_enter Try.func15, Try.ntmps15
    go_wp2_with (first | (go_at_call 30; refine K.mono ?_; clear K; rintro e w' ⟨rfl, rfl⟩) | (refine wpList_run rfl _ (exec_build1 _ 67 0 (.tmp 47) rfl (.int .i64 i) rfl _ (build67 _ _)) ?_; try rw [hW.out]) | (refine wpList_run rfl _ (exec_alloc_agg _ 67 rfl _ (zero67 _)) ?_) | (refine wpList_run0 rfl (exec_store_new w 67 (.tmp 7) (.tmp 48) rfl _ _ rfl (wrow i z64) rfl hz.out (wrow_one _ _) hsz.out) ?_) | (refine wpList_run rfl _ ((exec_copy_new w (.tmp 50) (.tmp 51) 25 9 5 rfl _ _ 1 64 64 s rfl rfl Try.underlying25 size5 hle.out hfit.out).trans (by rw [hsp.out])) ?_))

    refine wp_region_any (by kernel_rfl) ?_
    change wpAny _ _ _ _ _ _ _ (World.drew _)
    refine any_take 0 (some 53) (.move (.tmp 0)) (.pointer (some ⟨b, 0, none⟩)) rfl (by kernel_rfl) (by kernel_rfl) (by kernel_rfl) (fun _ _ _ h => h) (fun o ho w => exec_move (.tmp 0) ho _ rfl w) ?_
    simp only [Act.put, List.setIfInBounds_toArray, List.set_cons_succ, List.set_cons_zero]
    refine any_take 1 (some 54) (.move (.tmp 0)) (.pointer (some ⟨b, 0, none⟩)) rfl (by kernel_rfl) (by kernel_rfl) (by kernel_rfl) (fun _ _ _ h => h) (fun o ho w => exec_move (.tmp 0) ho _ rfl w) ?_
    simp only [Act.put, List.setIfInBounds_toArray, List.set_cons_succ, List.set_cons_zero]
    refine any_take 2 (some 55) (.nilCheck (.tmp 54)) (.pointer (some ⟨b, 0, none⟩)) rfl (by kernel_rfl) (by kernel_rfl) (by kernel_rfl) (fun _ _ _ h => h) (fun o ho w => exec_nilCheck (.tmp 54) ho ⟨b, 0, none⟩ rfl w) ?_
    simp only [Act.put, List.setIfInBounds_toArray, List.set_cons_succ, List.set_cons_zero]
    refine any_take 3 (some 56) (.fieldAddr 62 (.tmp 55) 1) (.pointer (some ⟨b, 1, none⟩)) rfl (by kernel_rfl) (by kernel_rfl) (by kernel_rfl) (fun _ _ _ h => h) (fun o ho w => exec_fieldAddr62_1 (.tmp 55) ho b rfl w) ?_
    simp only [Act.put, List.setIfInBounds_toArray, List.set_cons_succ, List.set_cons_zero]
    refine any_two 4 5 (some 57) (.load 60 (.tmp 56)) (some 58) (.load 67 (.tmp 7)) (by kernel_rfl) rfl rfl _ _ (fun o ho => exec_load_one _ 60 (.tmp 56) ho ⟨b, 1, none⟩ rfl lv q1.out _ Try.underlying60 rfl) (fun o ho => exec_load_seg _ 67 (.tmp 7) ho w.heap.size 0 rfl (wrow i s.data.toList) _ q2.out Try.underlying67 rfl hsz67.out) ?_ ?_
    · simp only [Act.put, List.setIfInBounds_toArray, List.set_cons_succ, List.set_cons_zero]
      refine any_one 5 (some 58) (.load 67 (.tmp 7)) (by kernel_rfl) rfl _ (fun o ho => exec_load_seg _ 67 (.tmp 7) ho w.heap.size 0 rfl (wrow i s.data.toList) _ q2.out Try.underlying67 rfl hsz67.out) ?_
      simp only [Act.put, List.setIfInBounds_toArray, List.set_cons_succ, List.set_cons_zero]
      refine any_one 6 (some 59) (.buildSlice 60 1 #[(0, .tmp 58)]) (by kernel_rfl) rfl _ (fun o ho => exec_buildSlice1 _ 60 67 (.tmp 58) ho (wrow i s.data.toList) rfl Try.underlying60 hsz67.out hlim.out _ (zero67 _)) ?_
      simp only [Act.put, List.setIfInBounds_toArray, List.set_cons_succ, List.set_cons_zero]
      refine any_one 7 (some 60) (Op.call { callee := Callee.builtin Builtin.append, args := #[.tmp 57, .tmp 59], argTypes := #[60, 60] }) (by kernel_rfl) rfl _ (fun o ho => q3.out _ o (.tmp 57) (.tmp 59) ho rfl rfl) ?_
      simp only [Act.put, List.setIfInBounds_toArray, List.set_cons_succ, List.set_cons_zero]
      refine any_take 8 (some 61) (.nilCheck (.tmp 53)) (.pointer (some ⟨b, 0, none⟩)) rfl (by kernel_rfl) (by kernel_rfl) (by kernel_rfl) (fun _ _ _ h => h) (fun o ho w => exec_nilCheck (.tmp 53) ho ⟨b, 0, none⟩ rfl w) ?_
      simp only [Act.put, List.setIfInBounds_toArray, List.set_cons_succ, List.set_cons_zero]
      refine any_take 9 (some 62) (.fieldAddr 62 (.tmp 61) 1) (.pointer (some ⟨b, 1, none⟩)) rfl (by kernel_rfl) (by kernel_rfl) (by kernel_rfl) (fun _ _ _ h => h) (fun o ho w => exec_fieldAddr62_1 (.tmp 61) ho b rfl w) ?_
      simp only [Act.put, List.setIfInBounds_toArray, List.set_cons_succ, List.set_cons_zero]
      refine any_one0 10 (.store 60 (.tmp 62) (.tmp 60)) (by kernel_rfl) rfl (fun o ho => exec_store_one _ 60 (.tmp 62) (.tmp 60) ho ⟨b, 1, none⟩ rfl v' rfl q4.out.1 q4.out.2 lv q5.out q6.out size60) ?_
      refine wpAny_done (by kernel_rfl) ?_ _
      go_wp2_with fail
      refine wp_region_any (by kernel_rfl) ?_
      change wpAny _ _ _ _ _ _ _ (World.drew _)
      refine any_take 0 (some 63) (.move (.tmp 0)) (.pointer (some ⟨b, 0, none⟩)) rfl (by kernel_rfl) (by kernel_rfl) (by kernel_rfl) (fun _ _ _ h => h) (fun o ho w => exec_move (.tmp 0) ho _ rfl w) ?_
      simp only [Act.put, List.setIfInBounds_toArray, List.set_cons_succ, List.set_cons_zero]
      refine any_take 1 (some 64) (.nilCheck (.tmp 63)) (.pointer (some ⟨b, 0, none⟩)) rfl (by kernel_rfl) (by kernel_rfl) (by kernel_rfl) (fun _ _ _ h => h) (fun o ho w => exec_nilCheck (.tmp 63) ho ⟨b, 0, none⟩ rfl w) ?_
      simp only [Act.put, List.setIfInBounds_toArray, List.set_cons_succ, List.set_cons_zero]
      refine any_take 2 (some 65) (.fieldAddr 62 (.tmp 64) 0) (.pointer (some ⟨b, 0, none⟩)) rfl (by kernel_rfl) (by kernel_rfl) (by kernel_rfl) (fun _ _ _ h => h) (fun o ho w => exec_fieldAddr62_0 (.tmp 64) ho b rfl w) ?_
      simp only [Act.put, List.setIfInBounds_toArray, List.set_cons_succ, List.set_cons_zero]
      refine any_take 4 (some 67) (.move (.tmp 1)) (.int .i64 i) rfl (by kernel_rfl) (by kernel_rfl) (by kernel_rfl) (fun _ _ _ h => h) (fun o ho w => exec_move (.tmp 1) ho _ rfl w) ?_
      simp only [Act.put, List.setIfInBounds_toArray, List.set_cons_succ, List.set_cons_zero]
      refine any_take 5 (some 68) (.fieldAddr 67 (.tmp 7) 1) (.pointer (some ⟨w.heap.size, 1, none⟩)) rfl (by kernel_rfl) (by kernel_rfl) (by kernel_rfl) (fun _ _ _ h => h) (fun o ho w' => exec_fieldAddr67_1 (.tmp 7) ho w.heap.size rfl w') ?_
      simp only [Act.put, List.setIfInBounds_toArray, List.set_cons_succ, List.set_cons_zero]
      refine any_two 3 6 (some 66) (.load 59 (.tmp 65)) (some 69) (.load 65 (.tmp 68)) (by kernel_rfl) rfl rfl _ _ (fun o ho => exec_load_one _ 59 (.tmp 65) ho ⟨b, 0, none⟩ rfl _ r1.out _ Try.underlying59 rfl) (fun o ho => exec_load_seg _ 65 (.tmp 68) ho w.heap.size 1 rfl (bv s.data.toList) _ r2.out Try.underlying65 rfl hsz65.out) ?_ ?_
      · simp only [Act.put, List.setIfInBounds_toArray, List.set_cons_succ, List.set_cons_zero]
        refine any_one 6 (some 69) (.load 65 (.tmp 68)) (by kernel_rfl) rfl _ (fun o ho => exec_load_seg _ 65 (.tmp 68) ho w.heap.size 1 rfl (bv s.data.toList) _ r2.out Try.underlying65 rfl hsz65.out) ?_
        simp only [Act.put, List.setIfInBounds_toArray, List.set_cons_succ, List.set_cons_zero]
        refine any_one 7 (some 70) (.indexAddr 59 (.tmp 66) (.tmp 67)) (by kernel_rfl) rfl _ (fun o ho => exec_indexAddr59 (.tmp 66) (.tmp 67) ho bs n i rfl rfl hi _) ?_
        simp only [Act.put, List.setIfInBounds_toArray, List.set_cons_succ, List.set_cons_zero]
        refine any_one 8 (some 71) (.fieldAddr 69 (.tmp 70) 1) (by kernel_rfl) rfl _ (fun o ho => exec_fieldAddr69_1 (.tmp 70) ho bs (i * 128) rfl _) ?_
        simp only [Act.put, List.setIfInBounds_toArray, List.set_cons_succ, List.set_cons_zero]
        refine any_one0 9 (.store 65 (.tmp 71) (.tmp 69)) (by kernel_rfl) rfl (fun o ho => exec_store_seg _ 65 (.tmp 71) (.tmp 69) ho bs (i * 128 + 64) rfl (bv s.data.toList) rfl cur 69 r3.out r4.out (bv_one _) hsz65.out) ?_
        refine wpAny_done (by kernel_rfl) ?_ _
        go_wp2_with fail
        go_ret
        exact ⟨rfl, hR.out⟩
      · simp only [Act.put, List.setIfInBounds_toArray, List.set_cons_succ, List.set_cons_zero]
        refine any_one 3 (some 66) (.load 59 (.tmp 65)) (by kernel_rfl) rfl _ (fun o ho => exec_load_one _ 59 (.tmp 65) ho ⟨b, 0, none⟩ rfl _ r1.out _ Try.underlying59 rfl) ?_
        simp only [Act.put, List.setIfInBounds_toArray, List.set_cons_succ, List.set_cons_zero]
        refine any_one 7 (some 70) (.indexAddr 59 (.tmp 66) (.tmp 67)) (by kernel_rfl) rfl _ (fun o ho => exec_indexAddr59 (.tmp 66) (.tmp 67) ho bs n i rfl rfl hi _) ?_
        simp only [Act.put, List.setIfInBounds_toArray, List.set_cons_succ, List.set_cons_zero]
        refine any_one 8 (some 71) (.fieldAddr 69 (.tmp 70) 1) (by kernel_rfl) rfl _ (fun o ho => exec_fieldAddr69_1 (.tmp 70) ho bs (i * 128) rfl _) ?_
        simp only [Act.put, List.setIfInBounds_toArray, List.set_cons_succ, List.set_cons_zero]
        refine any_one0 9 (.store 65 (.tmp 71) (.tmp 69)) (by kernel_rfl) rfl (fun o ho => exec_store_seg _ 65 (.tmp 71) (.tmp 69) ho bs (i * 128 + 64) rfl (bv s.data.toList) rfl cur 69 r3.out r4.out (bv_one _) hsz65.out) ?_
        refine wpAny_done (by kernel_rfl) ?_ _
        go_wp2_with fail
        go_ret
        exact ⟨rfl, hR.out⟩
    · simp only [Act.put, List.setIfInBounds_toArray, List.set_cons_succ, List.set_cons_zero]
      refine any_two 4 6 (some 57) (.load 60 (.tmp 56)) (some 59) (.buildSlice 60 1 #[(0, .tmp 58)]) (by kernel_rfl) rfl rfl _ _ (fun o ho => exec_load_one _ 60 (.tmp 56) ho ⟨b, 1, none⟩ rfl lv q1.out _ Try.underlying60 rfl) (fun o ho => exec_buildSlice1 _ 60 67 (.tmp 58) ho (wrow i s.data.toList) rfl Try.underlying60 hsz67.out hlim.out _ (zero67 _)) ?_ ?_
      · simp only [Act.put, List.setIfInBounds_toArray, List.set_cons_succ, List.set_cons_zero]
        refine any_one 6 (some 59) (.buildSlice 60 1 #[(0, .tmp 58)]) (by kernel_rfl) rfl _ (fun o ho => exec_buildSlice1 _ 60 67 (.tmp 58) ho (wrow i s.data.toList) rfl Try.underlying60 hsz67.out hlim.out _ (zero67 _)) ?_
        simp only [Act.put, List.setIfInBounds_toArray, List.set_cons_succ, List.set_cons_zero]
        refine any_one 7 (some 60) (Op.call { callee := Callee.builtin Builtin.append, args := #[.tmp 57, .tmp 59], argTypes := #[60, 60] }) (by kernel_rfl) rfl _ (fun o ho => q3.out _ o (.tmp 57) (.tmp 59) ho rfl rfl) ?_
        simp only [Act.put, List.setIfInBounds_toArray, List.set_cons_succ, List.set_cons_zero]
        refine any_take 8 (some 61) (.nilCheck (.tmp 53)) (.pointer (some ⟨b, 0, none⟩)) rfl (by kernel_rfl) (by kernel_rfl) (by kernel_rfl) (fun _ _ _ h => h) (fun o ho w => exec_nilCheck (.tmp 53) ho ⟨b, 0, none⟩ rfl w) ?_
        simp only [Act.put, List.setIfInBounds_toArray, List.set_cons_succ, List.set_cons_zero]
        refine any_take 9 (some 62) (.fieldAddr 62 (.tmp 61) 1) (.pointer (some ⟨b, 1, none⟩)) rfl (by kernel_rfl) (by kernel_rfl) (by kernel_rfl) (fun _ _ _ h => h) (fun o ho w => exec_fieldAddr62_1 (.tmp 61) ho b rfl w) ?_
        simp only [Act.put, List.setIfInBounds_toArray, List.set_cons_succ, List.set_cons_zero]
        refine any_one0 10 (.store 60 (.tmp 62) (.tmp 60)) (by kernel_rfl) rfl (fun o ho => exec_store_one _ 60 (.tmp 62) (.tmp 60) ho ⟨b, 1, none⟩ rfl v' rfl q4.out.1 q4.out.2 lv q5.out q6.out size60) ?_
        refine wpAny_done (by kernel_rfl) ?_ _
        go_wp2_with fail
        refine wp_region_any (by kernel_rfl) ?_
        change wpAny _ _ _ _ _ _ _ (World.drew _)
        refine any_take 0 (some 63) (.move (.tmp 0)) (.pointer (some ⟨b, 0, none⟩)) rfl (by kernel_rfl) (by kernel_rfl) (by kernel_rfl) (fun _ _ _ h => h) (fun o ho w => exec_move (.tmp 0) ho _ rfl w) ?_
        simp only [Act.put, List.setIfInBounds_toArray, List.set_cons_succ, List.set_cons_zero]
        refine any_take 1 (some 64) (.nilCheck (.tmp 63)) (.pointer (some ⟨b, 0, none⟩)) rfl (by kernel_rfl) (by kernel_rfl) (by kernel_rfl) (fun _ _ _ h => h) (fun o ho w => exec_nilCheck (.tmp 63) ho ⟨b, 0, none⟩ rfl w) ?_
        simp only [Act.put, List.setIfInBounds_toArray, List.set_cons_succ, List.set_cons_zero]
        refine any_take 2 (some 65) (.fieldAddr 62 (.tmp 64) 0) (.pointer (some ⟨b, 0, none⟩)) rfl (by kernel_rfl) (by kernel_rfl) (by kernel_rfl) (fun _ _ _ h => h) (fun o ho w => exec_fieldAddr62_0 (.tmp 64) ho b rfl w) ?_
        simp only [Act.put, List.setIfInBounds_toArray, List.set_cons_succ, List.set_cons_zero]
        refine any_take 4 (some 67) (.move (.tmp 1)) (.int .i64 i) rfl (by kernel_rfl) (by kernel_rfl) (by kernel_rfl) (fun _ _ _ h => h) (fun o ho w => exec_move (.tmp 1) ho _ rfl w) ?_
        simp only [Act.put, List.setIfInBounds_toArray, List.set_cons_succ, List.set_cons_zero]
        refine any_take 5 (some 68) (.fieldAddr 67 (.tmp 7) 1) (.pointer (some ⟨w.heap.size, 1, none⟩)) rfl (by kernel_rfl) (by kernel_rfl) (by kernel_rfl) (fun _ _ _ h => h) (fun o ho w' => exec_fieldAddr67_1 (.tmp 7) ho w.heap.size rfl w') ?_
        simp only [Act.put, List.setIfInBounds_toArray, List.set_cons_succ, List.set_cons_zero]
        refine any_two 3 6 (some 66) (.load 59 (.tmp 65)) (some 69) (.load 65 (.tmp 68)) (by kernel_rfl) rfl rfl _ _ (fun o ho => exec_load_one _ 59 (.tmp 65) ho ⟨b, 0, none⟩ rfl _ r1.out _ Try.underlying59 rfl) (fun o ho => exec_load_seg _ 65 (.tmp 68) ho w.heap.size 1 rfl (bv s.data.toList) _ r2.out Try.underlying65 rfl hsz65.out) ?_ ?_
        · simp only [Act.put, List.setIfInBounds_toArray, List.set_cons_succ, List.set_cons_zero]
          refine any_one 6 (some 69) (.load 65 (.tmp 68)) (by kernel_rfl) rfl _ (fun o ho => exec_load_seg _ 65 (.tmp 68) ho w.heap.size 1 rfl (bv s.data.toList) _ r2.out Try.underlying65 rfl hsz65.out) ?_
          simp only [Act.put, List.setIfInBounds_toArray, List.set_cons_succ, List.set_cons_zero]
          refine any_one 7 (some 70) (.indexAddr 59 (.tmp 66) (.tmp 67)) (by kernel_rfl) rfl _ (fun o ho => exec_indexAddr59 (.tmp 66) (.tmp 67) ho bs n i rfl rfl hi _) ?_
          simp only [Act.put, List.setIfInBounds_toArray, List.set_cons_succ, List.set_cons_zero]
          refine any_one 8 (some 71) (.fieldAddr 69 (.tmp 70) 1) (by kernel_rfl) rfl _ (fun o ho => exec_fieldAddr69_1 (.tmp 70) ho bs (i * 128) rfl _) ?_
          simp only [Act.put, List.setIfInBounds_toArray, List.set_cons_succ, List.set_cons_zero]
          refine any_one0 9 (.store 65 (.tmp 71) (.tmp 69)) (by kernel_rfl) rfl (fun o ho => exec_store_seg _ 65 (.tmp 71) (.tmp 69) ho bs (i * 128 + 64) rfl (bv s.data.toList) rfl cur 69 r3.out r4.out (bv_one _) hsz65.out) ?_
          refine wpAny_done (by kernel_rfl) ?_ _
          go_wp2_with fail
          go_ret
          exact ⟨rfl, hR.out⟩
        · simp only [Act.put, List.setIfInBounds_toArray, List.set_cons_succ, List.set_cons_zero]
          refine any_one 3 (some 66) (.load 59 (.tmp 65)) (by kernel_rfl) rfl _ (fun o ho => exec_load_one _ 59 (.tmp 65) ho ⟨b, 0, none⟩ rfl _ r1.out _ Try.underlying59 rfl) ?_
          simp only [Act.put, List.setIfInBounds_toArray, List.set_cons_succ, List.set_cons_zero]
          refine any_one 7 (some 70) (.indexAddr 59 (.tmp 66) (.tmp 67)) (by kernel_rfl) rfl _ (fun o ho => exec_indexAddr59 (.tmp 66) (.tmp 67) ho bs n i rfl rfl hi _) ?_
          simp only [Act.put, List.setIfInBounds_toArray, List.set_cons_succ, List.set_cons_zero]
          refine any_one 8 (some 71) (.fieldAddr 69 (.tmp 70) 1) (by kernel_rfl) rfl _ (fun o ho => exec_fieldAddr69_1 (.tmp 70) ho bs (i * 128) rfl _) ?_
          simp only [Act.put, List.setIfInBounds_toArray, List.set_cons_succ, List.set_cons_zero]
          refine any_one0 9 (.store 65 (.tmp 71) (.tmp 69)) (by kernel_rfl) rfl (fun o ho => exec_store_seg _ 65 (.tmp 71) (.tmp 69) ho bs (i * 128 + 64) rfl (bv s.data.toList) rfl cur 69 r3.out r4.out (bv_one _) hsz65.out) ?_
          refine wpAny_done (by kernel_rfl) ?_ _
          go_wp2_with fail
          go_ret
          exact ⟨rfl, hR.out⟩
      · simp only [Act.put, List.setIfInBounds_toArray, List.set_cons_succ, List.set_cons_zero]
        refine any_one 4 (some 57) (.load 60 (.tmp 56)) (by kernel_rfl) rfl _ (fun o ho => exec_load_one _ 60 (.tmp 56) ho ⟨b, 1, none⟩ rfl lv q1'.out _ Try.underlying60 rfl) ?_
        simp only [Act.put, List.setIfInBounds_toArray, List.set_cons_succ, List.set_cons_zero]
        refine any_one 7 (some 60) (Op.call { callee := Callee.builtin Builtin.append, args := #[.tmp 57, .tmp 59], argTypes := #[60, 60] }) (by kernel_rfl) rfl _ (fun o ho => q3.out _ o (.tmp 57) (.tmp 59) ho rfl rfl) ?_
        simp only [Act.put, List.setIfInBounds_toArray, List.set_cons_succ, List.set_cons_zero]
        refine any_take 8 (some 61) (.nilCheck (.tmp 53)) (.pointer (some ⟨b, 0, none⟩)) rfl (by kernel_rfl) (by kernel_rfl) (by kernel_rfl) (fun _ _ _ h => h) (fun o ho w => exec_nilCheck (.tmp 53) ho ⟨b, 0, none⟩ rfl w) ?_
        simp only [Act.put, List.setIfInBounds_toArray, List.set_cons_succ, List.set_cons_zero]
        refine any_take 9 (some 62) (.fieldAddr 62 (.tmp 61) 1) (.pointer (some ⟨b, 1, none⟩)) rfl (by kernel_rfl) (by kernel_rfl) (by kernel_rfl) (fun _ _ _ h => h) (fun o ho w => exec_fieldAddr62_1 (.tmp 61) ho b rfl w) ?_
        simp only [Act.put, List.setIfInBounds_toArray, List.set_cons_succ, List.set_cons_zero]
        refine any_one0 10 (.store 60 (.tmp 62) (.tmp 60)) (by kernel_rfl) rfl (fun o ho => exec_store_one _ 60 (.tmp 62) (.tmp 60) ho ⟨b, 1, none⟩ rfl v' rfl q4.out.1 q4.out.2 lv q5.out q6.out size60) ?_
        refine wpAny_done (by kernel_rfl) ?_ _
        go_wp2_with fail
        refine wp_region_any (by kernel_rfl) ?_
        change wpAny _ _ _ _ _ _ _ (World.drew _)
        refine any_take 0 (some 63) (.move (.tmp 0)) (.pointer (some ⟨b, 0, none⟩)) rfl (by kernel_rfl) (by kernel_rfl) (by kernel_rfl) (fun _ _ _ h => h) (fun o ho w => exec_move (.tmp 0) ho _ rfl w) ?_
        simp only [Act.put, List.setIfInBounds_toArray, List.set_cons_succ, List.set_cons_zero]
        refine any_take 1 (some 64) (.nilCheck (.tmp 63)) (.pointer (some ⟨b, 0, none⟩)) rfl (by kernel_rfl) (by kernel_rfl) (by kernel_rfl) (fun _ _ _ h => h) (fun o ho w => exec_nilCheck (.tmp 63) ho ⟨b, 0, none⟩ rfl w) ?_
        simp only [Act.put, List.setIfInBounds_toArray, List.set_cons_succ, List.set_cons_zero]
        refine any_take 2 (some 65) (.fieldAddr 62 (.tmp 64) 0) (.pointer (some ⟨b, 0, none⟩)) rfl (by kernel_rfl) (by kernel_rfl) (by kernel_rfl) (fun _ _ _ h => h) (fun o ho w => exec_fieldAddr62_0 (.tmp 64) ho b rfl w) ?_
        simp only [Act.put, List.setIfInBounds_toArray, List.set_cons_succ, List.set_cons_zero]
        refine any_take 4 (some 67) (.move (.tmp 1)) (.int .i64 i) rfl (by kernel_rfl) (by kernel_rfl) (by kernel_rfl) (fun _ _ _ h => h) (fun o ho w => exec_move (.tmp 1) ho _ rfl w) ?_
        simp only [Act.put, List.setIfInBounds_toArray, List.set_cons_succ, List.set_cons_zero]
        refine any_take 5 (some 68) (.fieldAddr 67 (.tmp 7) 1) (.pointer (some ⟨w.heap.size, 1, none⟩)) rfl (by kernel_rfl) (by kernel_rfl) (by kernel_rfl) (fun _ _ _ h => h) (fun o ho w' => exec_fieldAddr67_1 (.tmp 7) ho w.heap.size rfl w') ?_
        simp only [Act.put, List.setIfInBounds_toArray, List.set_cons_succ, List.set_cons_zero]
        refine any_two 3 6 (some 66) (.load 59 (.tmp 65)) (some 69) (.load 65 (.tmp 68)) (by kernel_rfl) rfl rfl _ _ (fun o ho => exec_load_one _ 59 (.tmp 65) ho ⟨b, 0, none⟩ rfl _ r1.out _ Try.underlying59 rfl) (fun o ho => exec_load_seg _ 65 (.tmp 68) ho w.heap.size 1 rfl (bv s.data.toList) _ r2.out Try.underlying65 rfl hsz65.out) ?_ ?_
        · simp only [Act.put, List.setIfInBounds_toArray, List.set_cons_succ, List.set_cons_zero]
          refine any_one 6 (some 69) (.load 65 (.tmp 68)) (by kernel_rfl) rfl _ (fun o ho => exec_load_seg _ 65 (.tmp 68) ho w.heap.size 1 rfl (bv s.data.toList) _ r2.out Try.underlying65 rfl hsz65.out) ?_
          simp only [Act.put, List.setIfInBounds_toArray, List.set_cons_succ, List.set_cons_zero]
          refine any_one 7 (some 70) (.indexAddr 59 (.tmp 66) (.tmp 67)) (by kernel_rfl) rfl _ (fun o ho => exec_indexAddr59 (.tmp 66) (.tmp 67) ho bs n i rfl rfl hi _) ?_
          simp only [Act.put, List.setIfInBounds_toArray, List.set_cons_succ, List.set_cons_zero]
          refine any_one 8 (some 71) (.fieldAddr 69 (.tmp 70) 1) (by kernel_rfl) rfl _ (fun o ho => exec_fieldAddr69_1 (.tmp 70) ho bs (i * 128) rfl _) ?_
          simp only [Act.put, List.setIfInBounds_toArray, List.set_cons_succ, List.set_cons_zero]
          refine any_one0 9 (.store 65 (.tmp 71) (.tmp 69)) (by kernel_rfl) rfl (fun o ho => exec_store_seg _ 65 (.tmp 71) (.tmp 69) ho bs (i * 128 + 64) rfl (bv s.data.toList) rfl cur 69 r3.out r4.out (bv_one _) hsz65.out) ?_
          refine wpAny_done (by kernel_rfl) ?_ _
          go_wp2_with fail
          go_ret
          exact ⟨rfl, hR.out⟩
        · simp only [Act.put, List.setIfInBounds_toArray, List.set_cons_succ, List.set_cons_zero]
          refine any_one 3 (some 66) (.load 59 (.tmp 65)) (by kernel_rfl) rfl _ (fun o ho => exec_load_one _ 59 (.tmp 65) ho ⟨b, 0, none⟩ rfl _ r1.out _ Try.underlying59 rfl) ?_
          simp only [Act.put, List.setIfInBounds_toArray, List.set_cons_succ, List.set_cons_zero]
          refine any_one 7 (some 70) (.indexAddr 59 (.tmp 66) (.tmp 67)) (by kernel_rfl) rfl _ (fun o ho => exec_indexAddr59 (.tmp 66) (.tmp 67) ho bs n i rfl rfl hi _) ?_
          simp only [Act.put, List.setIfInBounds_toArray, List.set_cons_succ, List.set_cons_zero]
          refine any_one 8 (some 71) (.fieldAddr 69 (.tmp 70) 1) (by kernel_rfl) rfl _ (fun o ho => exec_fieldAddr69_1 (.tmp 70) ho bs (i * 128) rfl _) ?_
          simp only [Act.put, List.setIfInBounds_toArray, List.set_cons_succ, List.set_cons_zero]
          refine any_one0 9 (.store 65 (.tmp 71) (.tmp 69)) (by kernel_rfl) rfl (fun o ho => exec_store_seg _ 65 (.tmp 71) (.tmp 69) ho bs (i * 128 + 64) rfl (bv s.data.toList) rfl cur 69 r3.out r4.out (bv_one _) hsz65.out) ?_
          refine wpAny_done (by kernel_rfl) ?_ _
          go_wp2_with fail
          go_ret
          exact ⟨rfl, hR.out⟩
  · have hd0 : ((fuse : Int) == 0) = false := by simp; omega
    have hd1 : decide (0 < (fuse : Int)) = true := by simp; omega
    have hW := Lib.hid hw
    clear hw
    go_enter Try.func15, Try.ntmps15
    go_wp2_with (first | (go_at_call 30; refine K.mono ?_; clear K; rintro e w' ⟨rfl, rfl⟩) | (refine wpList_run rfl _ (exec_build1 _ 67 0 (.tmp 47) rfl (.int .i64 i) rfl _ (build67 _ _)) ?_; try rw [hW.out]) | (refine wpList_run rfl _ (exec_alloc_agg _ 67 rfl _ (zero67 _)) ?_) | (refine wpList_run0 rfl (exec_store_new W0 67 (.tmp 7) (.tmp 48) rfl _ _ rfl (wrow i z64) rfl hz.out (wrow_one _ _) hsz.out) ?_) | (refine wpList_run rfl _ ((exec_copy_new W0 (.tmp 50) (.tmp 51) 25 9 5 rfl _ _ 1 64 64 s rfl rfl Try.underlying25 size5 hle.out hfit.out).trans (by rw [hsp.out])) ?_))

    refine wp_region_any (by kernel_rfl) ?_
    change wpAny _ _ _ _ _ _ _ (World.drew _)
    refine any_take 0 (some 53) (.move (.tmp 0)) (.pointer (some ⟨b, 0, none⟩)) rfl (by kernel_rfl) (by kernel_rfl) (by kernel_rfl) (fun _ _ _ h => h) (fun o ho w => exec_move (.tmp 0) ho _ rfl w) ?_
    simp only [Act.put, List.setIfInBounds_toArray, List.set_cons_succ, List.set_cons_zero]
    refine any_take 1 (some 54) (.move (.tmp 0)) (.pointer (some ⟨b, 0, none⟩)) rfl (by kernel_rfl) (by kernel_rfl) (by kernel_rfl) (fun _ _ _ h => h) (fun o ho w => exec_move (.tmp 0) ho _ rfl w) ?_
    simp only [Act.put, List.setIfInBounds_toArray, List.set_cons_succ, List.set_cons_zero]
    refine any_take 2 (some 55) (.nilCheck (.tmp 54)) (.pointer (some ⟨b, 0, none⟩)) rfl (by kernel_rfl) (by kernel_rfl) (by kernel_rfl) (fun _ _ _ h => h) (fun o ho w => exec_nilCheck (.tmp 54) ho ⟨b, 0, none⟩ rfl w) ?_
    simp only [Act.put, List.setIfInBounds_toArray, List.set_cons_succ, List.set_cons_zero]
    refine any_take 3 (some 56) (.fieldAddr 62 (.tmp 55) 1) (.pointer (some ⟨b, 1, none⟩)) rfl (by kernel_rfl) (by kernel_rfl) (by kernel_rfl) (fun _ _ _ h => h) (fun o ho w => exec_fieldAddr62_1 (.tmp 55) ho b rfl w) ?_
    simp only [Act.put, List.setIfInBounds_toArray, List.set_cons_succ, List.set_cons_zero]
    refine any_two 4 5 (some 57) (.load 60 (.tmp 56)) (some 58) (.load 67 (.tmp 7)) (by kernel_rfl) rfl rfl _ _ (fun o ho => exec_load_one _ 60 (.tmp 56) ho ⟨b, 1, none⟩ rfl lv q1.out _ Try.underlying60 rfl) (fun o ho => exec_load_seg _ 67 (.tmp 7) ho W0.heap.size 0 rfl (wrow i s.data.toList) _ q2.out Try.underlying67 rfl hsz67.out) ?_ ?_
    · simp only [Act.put, List.setIfInBounds_toArray, List.set_cons_succ, List.set_cons_zero]
      refine any_one 5 (some 58) (.load 67 (.tmp 7)) (by kernel_rfl) rfl _ (fun o ho => exec_load_seg _ 67 (.tmp 7) ho W0.heap.size 0 rfl (wrow i s.data.toList) _ q2.out Try.underlying67 rfl hsz67.out) ?_
      simp only [Act.put, List.setIfInBounds_toArray, List.set_cons_succ, List.set_cons_zero]
      refine any_one 6 (some 59) (.buildSlice 60 1 #[(0, .tmp 58)]) (by kernel_rfl) rfl _ (fun o ho => exec_buildSlice1 _ 60 67 (.tmp 58) ho (wrow i s.data.toList) rfl Try.underlying60 hsz67.out hlim.out _ (zero67 _)) ?_
      simp only [Act.put, List.setIfInBounds_toArray, List.set_cons_succ, List.set_cons_zero]
      refine any_one 7 (some 60) (Op.call { callee := Callee.builtin Builtin.append, args := #[.tmp 57, .tmp 59], argTypes := #[60, 60] }) (by kernel_rfl) rfl _ (fun o ho => q3.out _ o (.tmp 57) (.tmp 59) ho rfl rfl) ?_
      simp only [Act.put, List.setIfInBounds_toArray, List.set_cons_succ, List.set_cons_zero]
      refine any_take 8 (some 61) (.nilCheck (.tmp 53)) (.pointer (some ⟨b, 0, none⟩)) rfl (by kernel_rfl) (by kernel_rfl) (by kernel_rfl) (fun _ _ _ h => h) (fun o ho w => exec_nilCheck (.tmp 53) ho ⟨b, 0, none⟩ rfl w) ?_
      simp only [Act.put, List.setIfInBounds_toArray, List.set_cons_succ, List.set_cons_zero]
      refine any_take 9 (some 62) (.fieldAddr 62 (.tmp 61) 1) (.pointer (some ⟨b, 1, none⟩)) rfl (by kernel_rfl) (by kernel_rfl) (by kernel_rfl) (fun _ _ _ h => h) (fun o ho w => exec_fieldAddr62_1 (.tmp 61) ho b rfl w) ?_
      simp only [Act.put, List.setIfInBounds_toArray, List.set_cons_succ, List.set_cons_zero]
      refine any_one0 10 (.store 60 (.tmp 62) (.tmp 60)) (by kernel_rfl) rfl (fun o ho => exec_store_one _ 60 (.tmp 62) (.tmp 60) ho ⟨b, 1, none⟩ rfl v' rfl q4.out.1 q4.out.2 lv q5.out q6.out size60) ?_
      refine wpAny_done (by kernel_rfl) ?_ _
      go_wp2_with fail
      refine wp_region_any (by kernel_rfl) ?_
      change wpAny _ _ _ _ _ _ _ (World.drew _)
      refine any_take 0 (some 63) (.move (.tmp 0)) (.pointer (some ⟨b, 0, none⟩)) rfl (by kernel_rfl) (by kernel_rfl) (by kernel_rfl) (fun _ _ _ h => h) (fun o ho w => exec_move (.tmp 0) ho _ rfl w) ?_
      simp only [Act.put, List.setIfInBounds_toArray, List.set_cons_succ, List.set_cons_zero]
      refine any_take 1 (some 64) (.nilCheck (.tmp 63)) (.pointer (some ⟨b, 0, none⟩)) rfl (by kernel_rfl) (by kernel_rfl) (by kernel_rfl) (fun _ _ _ h => h) (fun o ho w => exec_nilCheck (.tmp 63) ho ⟨b, 0, none⟩ rfl w) ?_
      simp only [Act.put, List.setIfInBounds_toArray, List.set_cons_succ, List.set_cons_zero]
      refine any_take 2 (some 65) (.fieldAddr 62 (.tmp 64) 0) (.pointer (some ⟨b, 0, none⟩)) rfl (by kernel_rfl) (by kernel_rfl) (by kernel_rfl) (fun _ _ _ h => h) (fun o ho w => exec_fieldAddr62_0 (.tmp 64) ho b rfl w) ?_
      simp only [Act.put, List.setIfInBounds_toArray, List.set_cons_succ, List.set_cons_zero]
      refine any_take 4 (some 67) (.move (.tmp 1)) (.int .i64 i) rfl (by kernel_rfl) (by kernel_rfl) (by kernel_rfl) (fun _ _ _ h => h) (fun o ho w => exec_move (.tmp 1) ho _ rfl w) ?_
      simp only [Act.put, List.setIfInBounds_toArray, List.set_cons_succ, List.set_cons_zero]
      refine any_take 5 (some 68) (.fieldAddr 67 (.tmp 7) 1) (.pointer (some ⟨W0.heap.size, 1, none⟩)) rfl (by kernel_rfl) (by kernel_rfl) (by kernel_rfl) (fun _ _ _ h => h) (fun o ho w' => exec_fieldAddr67_1 (.tmp 7) ho W0.heap.size rfl w') ?_
      simp only [Act.put, List.setIfInBounds_toArray, List.set_cons_succ, List.set_cons_zero]
      refine any_two 3 6 (some 66) (.load 59 (.tmp 65)) (some 69) (.load 65 (.tmp 68)) (by kernel_rfl) rfl rfl _ _ (fun o ho => exec_load_one _ 59 (.tmp 65) ho ⟨b, 0, none⟩ rfl _ r1.out _ Try.underlying59 rfl) (fun o ho => exec_load_seg _ 65 (.tmp 68) ho W0.heap.size 1 rfl (bv s.data.toList) _ r2.out Try.underlying65 rfl hsz65.out) ?_ ?_
      · simp only [Act.put, List.setIfInBounds_toArray, List.set_cons_succ, List.set_cons_zero]
        refine any_one 6 (some 69) (.load 65 (.tmp 68)) (by kernel_rfl) rfl _ (fun o ho => exec_load_seg _ 65 (.tmp 68) ho W0.heap.size 1 rfl (bv s.data.toList) _ r2.out Try.underlying65 rfl hsz65.out) ?_
        simp only [Act.put, List.setIfInBounds_toArray, List.set_cons_succ, List.set_cons_zero]
        refine any_one 7 (some 70) (.indexAddr 59 (.tmp 66) (.tmp 67)) (by kernel_rfl) rfl _ (fun o ho => exec_indexAddr59 (.tmp 66) (.tmp 67) ho bs n i rfl rfl hi _) ?_
        simp only [Act.put, List.setIfInBounds_toArray, List.set_cons_succ, List.set_cons_zero]
        refine any_one 8 (some 71) (.fieldAddr 69 (.tmp 70) 1) (by kernel_rfl) rfl _ (fun o ho => exec_fieldAddr69_1 (.tmp 70) ho bs (i * 128) rfl _) ?_
        simp only [Act.put, List.setIfInBounds_toArray, List.set_cons_succ, List.set_cons_zero]
        refine any_one0 9 (.store 65 (.tmp 71) (.tmp 69)) (by kernel_rfl) rfl (fun o ho => exec_store_seg _ 65 (.tmp 71) (.tmp 69) ho bs (i * 128 + 64) rfl (bv s.data.toList) rfl cur 69 r3.out r4.out (bv_one _) hsz65.out) ?_
        refine wpAny_done (by kernel_rfl) ?_ _
        go_wp2_with fail
        go_ret
        exact ⟨rfl, hR.out⟩
      · simp only [Act.put, List.setIfInBounds_toArray, List.set_cons_succ, List.set_cons_zero]
        refine any_one 3 (some 66) (.load 59 (.tmp 65)) (by kernel_rfl) rfl _ (fun o ho => exec_load_one _ 59 (.tmp 65) ho ⟨b, 0, none⟩ rfl _ r1.out _ Try.underlying59 rfl) ?_
        simp only [Act.put, List.setIfInBounds_toArray, List.set_cons_succ, List.set_cons_zero]
        refine any_one 7 (some 70) (.indexAddr 59 (.tmp 66) (.tmp 67)) (by kernel_rfl) rfl _ (fun o ho => exec_indexAddr59 (.tmp 66) (.tmp 67) ho bs n i rfl rfl hi _) ?_
        simp only [Act.put, List.setIfInBounds_toArray, List.set_cons_succ, List.set_cons_zero]
        refine any_one 8 (some 71) (.fieldAddr 69 (.tmp 70) 1) (by kernel_rfl) rfl _ (fun o ho => exec_fieldAddr69_1 (.tmp 70) ho bs (i * 128) rfl _) ?_
        simp only [Act.put, List.setIfInBounds_toArray, List.set_cons_succ, List.set_cons_zero]
        refine any_one0 9 (.store 65 (.tmp 71) (.tmp 69)) (by kernel_rfl) rfl (fun o ho => exec_store_seg _ 65 (.tmp 71) (.tmp 69) ho bs (i * 128 + 64) rfl (bv s.data.toList) rfl cur 69 r3.out r4.out (bv_one _) hsz65.out) ?_
        refine wpAny_done (by kernel_rfl) ?_ _
        go_wp2_with fail
        go_ret
        exact ⟨rfl, hR.out⟩
    · simp only [Act.put, List.setIfInBounds_toArray, List.set_cons_succ, List.set_cons_zero]
      refine any_two 4 6 (some 57) (.load 60 (.tmp 56)) (some 59) (.buildSlice 60 1 #[(0, .tmp 58)]) (by kernel_rfl) rfl rfl _ _ (fun o ho => exec_load_one _ 60 (.tmp 56) ho ⟨b, 1, none⟩ rfl lv q1.out _ Try.underlying60 rfl) (fun o ho => exec_buildSlice1 _ 60 67 (.tmp 58) ho (wrow i s.data.toList) rfl Try.underlying60 hsz67.out hlim.out _ (zero67 _)) ?_ ?_
      · simp only [Act.put, List.setIfInBounds_toArray, List.set_cons_succ, List.set_cons_zero]
        refine any_one 6 (some 59) (.buildSlice 60 1 #[(0, .tmp 58)]) (by kernel_rfl) rfl _ (fun o ho => exec_buildSlice1 _ 60 67 (.tmp 58) ho (wrow i s.data.toList) rfl Try.underlying60 hsz67.out hlim.out _ (zero67 _)) ?_
        simp only [Act.put, List.setIfInBounds_toArray, List.set_cons_succ, List.set_cons_zero]
        refine any_one 7 (some 60) (Op.call { callee := Callee.builtin Builtin.append, args := #[.tmp 57, .tmp 59], argTypes := #[60, 60] }) (by kernel_rfl) rfl _ (fun o ho => q3.out _ o (.tmp 57) (.tmp 59) ho rfl rfl) ?_
        simp only [Act.put, List.setIfInBounds_toArray, List.set_cons_succ, List.set_cons_zero]
        refine any_take 8 (some 61) (.nilCheck (.tmp 53)) (.pointer (some ⟨b, 0, none⟩)) rfl (by kernel_rfl) (by kernel_rfl) (by kernel_rfl) (fun _ _ _ h => h) (fun o ho w => exec_nilCheck (.tmp 53) ho ⟨b, 0, none⟩ rfl w) ?_
        simp only [Act.put, List.setIfInBounds_toArray, List.set_cons_succ, List.set_cons_zero]
        refine any_take 9 (some 62) (.fieldAddr 62 (.tmp 61) 1) (.pointer (some ⟨b, 1, none⟩)) rfl (by kernel_rfl) (by kernel_rfl) (by kernel_rfl) (fun _ _ _ h => h) (fun o ho w => exec_fieldAddr62_1 (.tmp 61) ho b rfl w) ?_
        simp only [Act.put, List.setIfInBounds_toArray, List.set_cons_succ, List.set_cons_zero]
        refine any_one0 10 (.store 60 (.tmp 62) (.tmp 60)) (by kernel_rfl) rfl (fun o ho => exec_store_one _ 60 (.tmp 62) (.tmp 60) ho ⟨b, 1, none⟩ rfl v' rfl q4.out.1 q4.out.2 lv q5.out q6.out size60) ?_
        refine wpAny_done (by kernel_rfl) ?_ _
        go_wp2_with fail
        refine wp_region_any (by kernel_rfl) ?_
        change wpAny _ _ _ _ _ _ _ (World.drew _)
        refine any_take 0 (some 63) (.move (.tmp 0)) (.pointer (some ⟨b, 0, none⟩)) rfl (by kernel_rfl) (by kernel_rfl) (by kernel_rfl) (fun _ _ _ h => h) (fun o ho w => exec_move (.tmp 0) ho _ rfl w) ?_
        simp only [Act.put, List.setIfInBounds_toArray, List.set_cons_succ, List.set_cons_zero]
        refine any_take 1 (some 64) (.nilCheck (.tmp 63)) (.pointer (some ⟨b, 0, none⟩)) rfl (by kernel_rfl) (by kernel_rfl) (by kernel_rfl) (fun _ _ _ h => h) (fun o ho w => exec_nilCheck (.tmp 63) ho ⟨b, 0, none⟩ rfl w) ?_
        simp only [Act.put, List.setIfInBounds_toArray, List.set_cons_succ, List.set_cons_zero]
        refine any_take 2 (some 65) (.fieldAddr 62 (.tmp 64) 0) (.pointer (some ⟨b, 0, none⟩)) rfl (by kernel_rfl) (by kernel_rfl) (by kernel_rfl) (fun _ _ _ h => h) (fun o ho w => exec_fieldAddr62_0 (.tmp 64) ho b rfl w) ?_
        simp only [Act.put, List.setIfInBounds_toArray, List.set_cons_succ, List.set_cons_zero]
        refine any_take 4 (some 67) (.move (.tmp 1)) (.int .i64 i) rfl (by kernel_rfl) (by kernel_rfl) (by kernel_rfl) (fun _ _ _ h => h) (fun o ho w => exec_move (.tmp 1) ho _ rfl w) ?_
        simp only [Act.put, List.setIfInBounds_toArray, List.set_cons_succ, List.set_cons_zero]
        refine any_take 5 (some 68) (.fieldAddr 67 (.tmp 7) 1) (.pointer (some ⟨W0.heap.size, 1, none⟩)) rfl (by kernel_rfl) (by kernel_rfl) (by kernel_rfl) (fun _ _ _ h => h) (fun o ho w' => exec_fieldAddr67_1 (.tmp 7) ho W0.heap.size rfl w') ?_
        simp only [Act.put, List.setIfInBounds_toArray, List.set_cons_succ, List.set_cons_zero]
        refine any_two 3 6 (some 66) (.load 59 (.tmp 65)) (some 69) (.load 65 (.tmp 68)) (by kernel_rfl) rfl rfl _ _ (fun o ho => exec_load_one _ 59 (.tmp 65) ho ⟨b, 0, none⟩ rfl _ r1.out _ Try.underlying59 rfl) (fun o ho => exec_load_seg _ 65 (.tmp 68) ho W0.heap.size 1 rfl (bv s.data.toList) _ r2.out Try.underlying65 rfl hsz65.out) ?_ ?_
        · simp only [Act.put, List.setIfInBounds_toArray, List.set_cons_succ, List.set_cons_zero]
          refine any_one 6 (some 69) (.load 65 (.tmp 68)) (by kernel_rfl) rfl _ (fun o ho => exec_load_seg _ 65 (.tmp 68) ho W0.heap.size 1 rfl (bv s.data.toList) _ r2.out Try.underlying65 rfl hsz65.out) ?_
          simp only [Act.put, List.setIfInBounds_toArray, List.set_cons_succ, List.set_cons_zero]
          refine any_one 7 (some 70) (.indexAddr 59 (.tmp 66) (.tmp 67)) (by kernel_rfl) rfl _ (fun o ho => exec_indexAddr59 (.tmp 66) (.tmp 67) ho bs n i rfl rfl hi _) ?_
          simp only [Act.put, List.setIfInBounds_toArray, List.set_cons_succ, List.set_cons_zero]
          refine any_one 8 (some 71) (.fieldAddr 69 (.tmp 70) 1) (by kernel_rfl) rfl _ (fun o ho => exec_fieldAddr69_1 (.tmp 70) ho bs (i * 128) rfl _) ?_
          simp only [Act.put, List.setIfInBounds_toArray, List.set_cons_succ, List.set_cons_zero]
          refine any_one0 9 (.store 65 (.tmp 71) (.tmp 69)) (by kernel_rfl) rfl (fun o ho => exec_store_seg _ 65 (.tmp 71) (.tmp 69) ho bs (i * 128 + 64) rfl (bv s.data.toList) rfl cur 69 r3.out r4.out (bv_one _) hsz65.out) ?_
          refine wpAny_done (by kernel_rfl) ?_ _
          go_wp2_with fail
          go_ret
          exact ⟨rfl, hR.out⟩
        · simp only [Act.put, List.setIfInBounds_toArray, List.set_cons_succ, List.set_cons_zero]
          refine any_one 3 (some 66) (.load 59 (.tmp 65)) (by kernel_rfl) rfl _ (fun o ho => exec_load_one _ 59 (.tmp 65) ho ⟨b, 0, none⟩ rfl _ r1.out _ Try.underlying59 rfl) ?_
          simp only [Act.put, List.setIfInBounds_toArray, List.set_cons_succ, List.set_cons_zero]
          refine any_one 7 (some 70) (.indexAddr 59 (.tmp 66) (.tmp 67)) (by kernel_rfl) rfl _ (fun o ho => exec_indexAddr59 (.tmp 66) (.tmp 67) ho bs n i rfl rfl hi _) ?_
          simp only [Act.put, List.setIfInBounds_toArray, List.set_cons_succ, List.set_cons_zero]
          refine any_one 8 (some 71) (.fieldAddr 69 (.tmp 70) 1) (by kernel_rfl) rfl _ (fun o ho => exec_fieldAddr69_1 (.tmp 70) ho bs (i * 128) rfl _) ?_
          simp only [Act.put, List.setIfInBounds_toArray, List.set_cons_succ, List.set_cons_zero]
          refine any_one0 9 (.store 65 (.tmp 71) (.tmp 69)) (by kernel_rfl) rfl (fun o ho => exec_store_seg _ 65 (.tmp 71) (.tmp 69) ho bs (i * 128 + 64) rfl (bv s.data.toList) rfl cur 69 r3.out r4.out (bv_one _) hsz65.out) ?_
          refine wpAny_done (by kernel_rfl) ?_ _
          go_wp2_with fail
          go_ret
          exact ⟨rfl, hR.out⟩
      · simp only [Act.put, List.setIfInBounds_toArray, List.set_cons_succ, List.set_cons_zero]
        refine any_one 4 (some 57) (.load 60 (.tmp 56)) (by kernel_rfl) rfl _ (fun o ho => exec_load_one _ 60 (.tmp 56) ho ⟨b, 1, none⟩ rfl lv q1'.out _ Try.underlying60 rfl) ?_
        simp only [Act.put, List.setIfInBounds_toArray, List.set_cons_succ, List.set_cons_zero]
        refine any_one 7 (some 60) (Op.call { callee := Callee.builtin Builtin.append, args := #[.tmp 57, .tmp 59], argTypes := #[60, 60] }) (by kernel_rfl) rfl _ (fun o ho => q3.out _ o (.tmp 57) (.tmp 59) ho rfl rfl) ?_
        simp only [Act.put, List.setIfInBounds_toArray, List.set_cons_succ, List.set_cons_zero]
        refine any_take 8 (some 61) (.nilCheck (.tmp 53)) (.pointer (some ⟨b, 0, none⟩)) rfl (by kernel_rfl) (by kernel_rfl) (by kernel_rfl) (fun _ _ _ h => h) (fun o ho w => exec_nilCheck (.tmp 53) ho ⟨b, 0, none⟩ rfl w) ?_
        simp only [Act.put, List.setIfInBounds_toArray, List.set_cons_succ, List.set_cons_zero]
        refine any_take 9 (some 62) (.fieldAddr 62 (.tmp 61) 1) (.pointer (some ⟨b, 1, none⟩)) rfl (by kernel_rfl) (by kernel_rfl) (by kernel_rfl) (fun _ _ _ h => h) (fun o ho w => exec_fieldAddr62_1 (.tmp 61) ho b rfl w) ?_
        simp only [Act.put, List.setIfInBounds_toArray, List.set_cons_succ, List.set_cons_zero]
        refine any_one0 10 (.store 60 (.tmp 62) (.tmp 60)) (by kernel_rfl) rfl (fun o ho => exec_store_one _ 60 (.tmp 62) (.tmp 60) ho ⟨b, 1, none⟩ rfl v' rfl q4.out.1 q4.out.2 lv q5.out q6.out size60) ?_
        refine wpAny_done (by kernel_rfl) ?_ _
        go_wp2_with fail
        refine wp_region_any (by kernel_rfl) ?_
        change wpAny _ _ _ _ _ _ _ (World.drew _)
        refine any_take 0 (some 63) (.move (.tmp 0)) (.pointer (some ⟨b, 0, none⟩)) rfl (by kernel_rfl) (by kernel_rfl) (by kernel_rfl) (fun _ _ _ h => h) (fun o ho w => exec_move (.tmp 0) ho _ rfl w) ?_
        simp only [Act.put, List.setIfInBounds_toArray, List.set_cons_succ, List.set_cons_zero]
        refine any_take 1 (some 64) (.nilCheck (.tmp 63)) (.pointer (some ⟨b, 0, none⟩)) rfl (by kernel_rfl) (by kernel_rfl) (by kernel_rfl) (fun _ _ _ h => h) (fun o ho w => exec_nilCheck (.tmp 63) ho ⟨b, 0, none⟩ rfl w) ?_
        simp only [Act.put, List.setIfInBounds_toArray, List.set_cons_succ, List.set_cons_zero]
        refine any_take 2 (some 65) (.fieldAddr 62 (.tmp 64) 0) (.pointer (some ⟨b, 0, none⟩)) rfl (by kernel_rfl) (by kernel_rfl) (by kernel_rfl) (fun _ _ _ h => h) (fun o ho w => exec_fieldAddr62_0 (.tmp 64) ho b rfl w) ?_
        simp only [Act.put, List.setIfInBounds_toArray, List.set_cons_succ, List.set_cons_zero]
        refine any_take 4 (some 67) (.move (.tmp 1)) (.int .i64 i) rfl (by kernel_rfl) (by kernel_rfl) (by kernel_rfl) (fun _ _ _ h => h) (fun o ho w => exec_move (.tmp 1) ho _ rfl w) ?_
        simp only [Act.put, List.setIfInBounds_toArray, List.set_cons_succ, List.set_cons_zero]
        refine any_take 5 (some 68) (.fieldAddr 67 (.tmp 7) 1) (.pointer (some ⟨W0.heap.size, 1, none⟩)) rfl (by kernel_rfl) (by kernel_rfl) (by kernel_rfl) (fun _ _ _ h => h) (fun o ho w' => exec_fieldAddr67_1 (.tmp 7) ho W0.heap.size rfl w') ?_
        simp only [Act.put, List.setIfInBounds_toArray, List.set_cons_succ, List.set_cons_zero]
        refine any_two 3 6 (some 66) (.load 59 (.tmp 65)) (some 69) (.load 65 (.tmp 68)) (by kernel_rfl) rfl rfl _ _ (fun o ho => exec_load_one _ 59 (.tmp 65) ho ⟨b, 0, none⟩ rfl _ r1.out _ Try.underlying59 rfl) (fun o ho => exec_load_seg _ 65 (.tmp 68) ho W0.heap.size 1 rfl (bv s.data.toList) _ r2.out Try.underlying65 rfl hsz65.out) ?_ ?_
        · simp only [Act.put, List.setIfInBounds_toArray, List.set_cons_succ, List.set_cons_zero]
          refine any_one 6 (some 69) (.load 65 (.tmp 68)) (by kernel_rfl) rfl _ (fun o ho => exec_load_seg _ 65 (.tmp 68) ho W0.heap.size 1 rfl (bv s.data.toList) _ r2.out Try.underlying65 rfl hsz65.out) ?_
          simp only [Act.put, List.setIfInBounds_toArray, List.set_cons_succ, List.set_cons_zero]
          refine any_one 7 (some 70) (.indexAddr 59 (.tmp 66) (.tmp 67)) (by kernel_rfl) rfl _ (fun o ho => exec_indexAddr59 (.tmp 66) (.tmp 67) ho bs n i rfl rfl hi _) ?_
          simp only [Act.put, List.setIfInBounds_toArray, List.set_cons_succ, List.set_cons_zero]
          refine any_one 8 (some 71) (.fieldAddr 69 (.tmp 70) 1) (by kernel_rfl) rfl _ (fun o ho => exec_fieldAddr69_1 (.tmp 70) ho bs (i * 128) rfl _) ?_
          simp only [Act.put, List.setIfInBounds_toArray, List.set_cons_succ, List.set_cons_zero]
          refine any_one0 9 (.store 65 (.tmp 71) (.tmp 69)) (by kernel_rfl) rfl (fun o ho => exec_store_seg _ 65 (.tmp 71) (.tmp 69) ho bs (i * 128 + 64) rfl (bv s.data.toList) rfl cur 69 r3.out r4.out (bv_one _) hsz65.out) ?_
          refine wpAny_done (by kernel_rfl) ?_ _
          go_wp2_with fail
          go_ret
          exact ⟨rfl, hR.out⟩
        · simp only [Act.put, List.setIfInBounds_toArray, List.set_cons_succ, List.set_cons_zero]
          refine any_one 3 (some 66) (.load 59 (.tmp 65)) (by kernel_rfl) rfl _ (fun o ho => exec_load_one _ 59 (.tmp 65) ho ⟨b, 0, none⟩ rfl _ r1.out _ Try.underlying59 rfl) ?_
          simp only [Act.put, List.setIfInBounds_toArray, List.set_cons_succ, List.set_cons_zero]
          refine any_one 7 (some 70) (.indexAddr 59 (.tmp 66) (.tmp 67)) (by kernel_rfl) rfl _ (fun o ho => exec_indexAddr59 (.tmp 66) (.tmp 67) ho bs n i rfl rfl hi _) ?_
          simp only [Act.put, List.setIfInBounds_toArray, List.set_cons_succ, List.set_cons_zero]
          refine any_one 8 (some 71) (.fieldAddr 69 (.tmp 70) 1) (by kernel_rfl) rfl _ (fun o ho => exec_fieldAddr69_1 (.tmp 70) ho bs (i * 128) rfl _) ?_
          simp only [Act.put, List.setIfInBounds_toArray, List.set_cons_succ, List.set_cons_zero]
          refine any_one0 9 (.store 65 (.tmp 71) (.tmp 69)) (by kernel_rfl) rfl (fun o ho => exec_store_seg _ 65 (.tmp 71) (.tmp 69) ho bs (i * 128 + 64) rfl (bv s.data.toList) rfl cur 69 r3.out r4.out (bv_one _) hsz65.out) ?_
          refine wpAny_done (by kernel_rfl) ?_ _
          go_wp2_with fail
          go_ret
          exact ⟨rfl, hR.out⟩

end Go.Proofs.Ytpkhddnehhophaa
