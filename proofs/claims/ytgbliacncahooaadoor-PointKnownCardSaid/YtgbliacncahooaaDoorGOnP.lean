/- On of package point: whether two numbers are a point. No condition but that they have 256 bits, and that the curve's number stands in memory. -/
import Derived.Test.YtgbliacncahooaaDoorGOpA
namespace Go.Proofs.YtgbliacncahooaaDoor
open Go.RowKit Go.Shelf
set_option linter.unusedVariables false
set_option linter.unusedSimpArgs false
set_option maxRecDepth 100000 in
set_option maxHeartbeats 2000000 in
theorem on_any_3 (x y : Nat) (hx : x < 115792089237316195423570985008687907853269984665640564039457584007913129639936) (hy : y < 115792089237316195423570985008687907853269984665640564039457584007913129639936) (h1 : x < pp) (h2 : y < pp) (w : World) (hG0 : Glob w) :
    Calls Tryd.prog 13 #[.agg (num x ++ num y)] w fun e w' => e = .returned (.bool (onT (x, y))) ∧ Below w.heap.size w w' := by
  have HG := Lib.hid hG0
  obtain ⟨b, hb⟩ : ∃ b, Hid (b = decide (subF (mulF (y) (y)) (mulF (x) (x)) = addF (1) (mulF (dN) (mulF (mulF (x) (x)) (mulF (y) (y)))))) := ⟨_, Lib.hid rfl⟩
  rw [show onT (x, y) = b by unfold onT; simp only; rw [decide_eq_true h1, decide_eq_true h2, hb.out]; simp only [Bool.true_and]]
  have HC4 := Lib.hid (norm_any (x) hx)
  rw [Nat.mod_eq_of_lt h1] at HC4
  have HC5 := Lib.hid (norm_any (y) hy)
  rw [Nat.mod_eq_of_lt h2] at HC5
  have HC7 := Lib.hid (mulf_any (x) (x) hx hx)
  have HC10 := Lib.hid (mulf_any (y) (y) hy hy)
  have HC14 := Lib.hid (subf_any (mulF (y) (y)) (mulF (x) (x)) (pp_lt (mulF_lt _ _)) (pp_lt (mulF_lt _ _)))
  have HC16 := Lib.hid (mulf_any (mulF (x) (x)) (mulF (y) (y)) (pp_lt (mulF_lt _ _)) (pp_lt (mulF_lt _ _)))
  have HC18 := Lib.hid (mulf_any (dN) (mulF (mulF (x) (x)) (mulF (y) (y))) dN_b4 (pp_lt (mulF_lt _ _)))
  have HC19 := Lib.hid (addf_any (1) (mulF (dN) (mulF (mulF (x) (x)) (mulF (y) (y)))) (by decide) (pp_lt (mulF_lt _ _)))
  obtain ⟨X, hX⟩ : ∃ zz9, Hid (zz9 = num (x)) := ⟨_, Lib.hid rfl⟩
  have IX : IsNum X := by rw [hX.out]; exact isNum _
  obtain ⟨Y, hY⟩ : ∃ zz9, Hid (zz9 = num (y)) := ⟨_, Lib.hid rfl⟩
  have IY : IsNum Y := by rw [hY.out]; exact isNum _
  obtain ⟨Pa, hPa⟩ : ∃ zz9, Hid (zz9 = X ++ Y) := ⟨_, Lib.hid rfl⟩
  have IPa : IsRw 8 Pa := by rw [hPa.out]; exact rw_app (isRw4 IX) (isRw4 IY)
  have SPa_0 : Part Pa 0 X := by rw [hPa.out]; exact part_left 0 (part_all X) Y
  have SPa_4 : Part Pa 4 Y := by rw [hPa.out]; exact part_right (X) Y 4 (by simp [IX.size])
  obtain ⟨NN1, hNN1⟩ : ∃ zz9, Hid (zz9 = num (subF (mulF (y) (y)) (mulF (x) (x)))) := ⟨_, Lib.hid rfl⟩
  have INN1 : IsNum NN1 := by rw [hNN1.out]; exact isNum _
  obtain ⟨NN2, hNN2⟩ : ∃ zz9, Hid (zz9 = num (addF (1) (mulF (dN) (mulF (mulF (x) (x)) (mulF (y) (y)))))) := ⟨_, Lib.hid rfl⟩
  have INN2 : IsNum NN2 := by rw [hNN2.out]; exact isNum _
  obtain ⟨NN6, hNN6⟩ : ∃ zz9, Hid (zz9 = num (mulF (x) (x))) := ⟨_, Lib.hid rfl⟩
  have INN6 : IsNum NN6 := by rw [hNN6.out]; exact isNum _
  obtain ⟨NN8, hNN8⟩ : ∃ zz9, Hid (zz9 = num (0)) := ⟨_, Lib.hid rfl⟩
  have INN8 : IsNum NN8 := by rw [hNN8.out]; exact isNum _
  obtain ⟨NN9, hNN9⟩ : ∃ zz9, Hid (zz9 = num (mulF (y) (y))) := ⟨_, Lib.hid rfl⟩
  have INN9 : IsNum NN9 := by rw [hNN9.out]; exact isNum _
  obtain ⟨NN12, hNN12⟩ : ∃ zz9, Hid (zz9 = num (1)) := ⟨_, Lib.hid rfl⟩
  have INN12 : IsNum NN12 := by rw [hNN12.out]; exact isNum _
  obtain ⟨NN13, hNN13⟩ : ∃ zz9, Hid (zz9 = num (dN)) := ⟨_, Lib.hid rfl⟩
  have INN13 : IsNum NN13 := by rw [hNN13.out]; exact isNum _
  obtain ⟨NN15, hNN15⟩ : ∃ zz9, Hid (zz9 = num (mulF (mulF (x) (x)) (mulF (y) (y)))) := ⟨_, Lib.hid rfl⟩
  have INN15 : IsNum NN15 := by rw [hNN15.out]; exact isNum _
  obtain ⟨NN17, hNN17⟩ : ∃ zz9, Hid (zz9 = num (mulF (dN) (mulF (mulF (x) (x)) (mulF (y) (y))))) := ⟨_, Lib.hid rfl⟩
  have INN17 : IsNum NN17 := by rw [hNN17.out]; exact isNum _
  have HZ24 : ∀ w, (zeroValue 24).run Tryd.prog w = .ok (.agg NN8) w := by rw [hNN8.out]; exact zero_run
  have SZNN8 := INN8.size
  have EQ3 : ∀ w, (Op.equalIn 10000 24 (.agg NN1) (.agg NN2)).run Tryd.prog w = .ok b w := by rw [hNN1.out, hNN2.out]; exact eq_num (subF (mulF (y) (y)) (mulF (x) (x))) (addF (1) (mulF (dN) (mulF (mulF (x) (x)) (mulF (y) (y))))) (pp_lt (subF_lt _ _)) (pp_lt (addF_lt _ _)) b hb.out.symm
  have BF11 : ∀ w, (Instr.build 24 #[(0, .int .u64 1)]).run Tryd.prog w = .ok (.agg NN12) w := by rw [hNN12.out]; exact build_run 1 (by decide)
  have LD : ∀ W, Below w.heap.size w W → (loadVar 24 ⟨0, 0, none⟩).run Tryd.prog W = .ok (.agg NN13) W := fun W hb => by rw [hNN13.out]; exact (HG.out.below hb).load
  try simp only [← hX.out, ← hY.out, ← hNN1.out, ← hNN2.out, ← hNN6.out, ← hNN8.out, ← hNN9.out, ← hNN12.out, ← hNN13.out, ← hNN15.out, ← hNN17.out] at HC4 HC5 HC7 HC10 HC14 HC16 HC18 HC19 ⊢
  try simp only [← hPa.out] at HC4 HC5 HC7 HC10 HC14 HC16 HC18 HC19 ⊢
  clear hX hY hPa hNN1 hNN2 hNN6 hNN8 hNN9 hNN12 hNN13 hNN15 hNN17 hb h1 h2 hx hy hG0
  go_enter Tryd.func13, Tryd.ntmps13
  have HS : Hid (Kt w [] w) := Lib.hid (Kt.nil w)
  go_upto_region 0 with fail
  refine wp_region_list ?_
  refine wpList_run rfl _ (exec_box _ 26 (.tmp 0) rfl _ rfl (Pa) rfl) ?_
  simp only [Act.put, sT, sS, sZ]
  have bg3 := HS.out.1.size
  have HS2 := Lib.hid (HS.out.new Pa 26)
  clear HS
  generalize w.alloc (.cells Pa 26) = w1 at *
  refine wpList_run rfl (.bool false) (exec_assign (.const (.bool false)) rfl _ rfl _) ?_
  simp only [Act.put, sT, sS, sZ]
  refine wpList_nil ?_
  go_upto_region 1 with fail
  refine wp_cut (fun a' W' => a' = { tmps := #[.agg Pa, .pointer (some ⟨w.heap.size, 0, none⟩), .bool false, undef, undef, .pointer (some ⟨w.heap.size, 0, none⟩), .agg X, .agg X, .pointer (some ⟨w.heap.size, 0, none⟩), .agg X, .bool false, .bool false, .pointer (some ⟨w.heap.size, 4, none⟩), .agg Y, .agg Y, .pointer (some ⟨w.heap.size, 4, none⟩), .agg Y, .bool false, .bool false, undef, undef, undef, undef, undef, undef, undef, undef, undef, undef, undef, undef, undef, undef, undef, undef, undef, undef, undef, undef, undef], defers := [] } ∧ Kt w [(w.heap.size, Pa, 26)] W') ?_ ?_
  · refine wp_region_any (by kernel_rfl) ?_
    change wpAny _ _ _ _ _ _ _ (World.drew _)
    have HDq4x1 := HS2.out.drew
    clear HS2
    generalize w1.drew = wdq4x2 at *
    refine any_of_F (S := Kt w [(w.heap.size, Pa, 26)]) (f := 1000) _ _ _ _ ?_
    refine tkG 0 (some 5) (.fieldAddr 26 (.tmp 1) 0) none (.pointer (some ⟨w.heap.size, 0, none⟩)) (fun o ho w2 hw => exec_field 26 (.tmp 1) 0 ho _ _ rfl w2 (fa26_0 (w.heap.size) w2)) HDq4x1 ?_
    simp only [Act.put, sT, sS, sZ]
    refine tkG 1 (some 6) (.load 24 (.tmp 5)) none (.agg X) (fun o ho w2 hw => exec_load_of _ 24 (.tmp 5) ho ⟨w.heap.size, 0, none⟩ rfl _ (load_part (hw.get (w.heap.size) Pa 26 (by simp)) IX 0 SPa_0)) HDq4x1 ?_
    simp only [Act.put, sT, sS, sZ]
    refine tkG 3 (some 8) (.fieldAddr 26 (.tmp 1) 0) none (.pointer (some ⟨w.heap.size, 0, none⟩)) (fun o ho w2 hw => exec_field 26 (.tmp 1) 0 ho _ _ rfl w2 (fa26_0 (w.heap.size) w2)) HDq4x1 ?_
    simp only [Act.put, sT, sS, sZ]
    refine tkG 4 (some 9) (.load 24 (.tmp 8)) none (.agg X) (fun o ho w2 hw => exec_load_of _ 24 (.tmp 8) ho ⟨w.heap.size, 0, none⟩ rfl _ (load_part (hw.get (w.heap.size) Pa 26 (by simp)) IX 0 SPa_0)) HDq4x1 ?_
    simp only [Act.put, sT, sS, sZ]
    refine rdy [2] (rcl (some 7) 39 #[.tmp 6] #[24] #[.agg X] en39 _ (HC4.out _) ?_ ReadyF.nil)
    rintro v wq4x11 ⟨he, hb⟩
    cases he
    have Hq4x12 := HDq4x1.below hb
    clear hb
    refine ⟨Hq4x12, ?_⟩
    simp only [Act.put, sT, sS, sZ]
    refine tkG 5 (some 10) (.binOp .neq 24 (.tmp 7) (.tmp 9) 24) none (.bool false) (fun o ho w2 hw => exec_neA (.tmp 7) (.tmp 9) ho X IX rfl rfl w2) Hq4x12 ?_
    simp only [Act.put, sT, sS, sZ]
    refine tkG 6 (some 11) (.move (.tmp 10)) none (.bool false) (fun o ho w2 hw => exec_move (.tmp 10) ho _ rfl w2) Hq4x12 ?_
    simp only [Act.put, sT, sS, sZ]
    refine tkG 7 (some 12) (.fieldAddr 26 (.tmp 1) 1) (some (6, false)) (.pointer (some ⟨w.heap.size, 4, none⟩)) (fun o ho w2 hw => exec_field 26 (.tmp 1) 1 ho _ _ rfl w2 (fa26_1 (w.heap.size) w2)) Hq4x12 ?_
    simp only [Act.put, sT, sS, sZ]
    refine tkG 8 (some 13) (.load 24 (.tmp 12)) (some (6, false)) (.agg Y) (fun o ho w2 hw => exec_load_of _ 24 (.tmp 12) ho ⟨w.heap.size, 4, none⟩ rfl _ (load_part (hw.get (w.heap.size) Pa 26 (by simp)) IY 4 SPa_4)) Hq4x12 ?_
    simp only [Act.put, sT, sS, sZ]
    refine tkG 10 (some 15) (.fieldAddr 26 (.tmp 1) 1) (some (6, false)) (.pointer (some ⟨w.heap.size, 4, none⟩)) (fun o ho w2 hw => exec_field 26 (.tmp 1) 1 ho _ _ rfl w2 (fa26_1 (w.heap.size) w2)) Hq4x12 ?_
    simp only [Act.put, sT, sS, sZ]
    refine tkG 11 (some 16) (.load 24 (.tmp 15)) (some (6, false)) (.agg Y) (fun o ho w2 hw => exec_load_of _ 24 (.tmp 15) ho ⟨w.heap.size, 4, none⟩ rfl _ (load_part (hw.get (w.heap.size) Pa 26 (by simp)) IY 4 SPa_4)) Hq4x12 ?_
    simp only [Act.put, sT, sS, sZ]
    refine rdy [9] (rclG (some 14) 39 #[.tmp 13] #[24] (some (6, false)) #[.agg Y] en39 _ (HC5.out _) ?_ ReadyF.nil)
    rintro v wq4x13 ⟨he, hb⟩
    cases he
    have Hq4x14 := Hq4x12.below hb
    clear hb
    refine ⟨Hq4x14, ?_⟩
    simp only [Act.put, sT, sS, sZ]
    refine tkG 12 (some 17) (.binOp .neq 24 (.tmp 14) (.tmp 16) 24) (some (6, false)) (.bool false) (fun o ho w2 hw => exec_neA (.tmp 14) (.tmp 16) ho Y IY rfl rfl w2) Hq4x14 ?_
    simp only [Act.put, sT, sS, sZ]
    refine tkG 13 (some 18) (.pick (.tmp 11) (.const (.bool true)) (.tmp 17)) none (.bool false) (fun o ho w2 hw => exec_pickf (.tmp 11) (.const (.bool true)) (.tmp 17) ho rfl _ rfl w2) Hq4x14 ?_
    simp only [Act.put, sT, sS, sZ]
    refine AnyF.done (by kernel_rfl) ?_ _
    refine nrm_intro ⟨rfl, Hq4x14.sub (fun p hp => by simp at hp; subst hp; simp)⟩
  rintro a' w5 ⟨rfl, hk⟩
  have HS6 := Lib.hid hk
  clear hk HS2
  go_upto_region 3 with fail
  refine wp_cut (fun a' W' => ∃ gq7s0 gq7s1, a' = { tmps := #[.agg Pa, .pointer (some ⟨w.heap.size, 0, none⟩), .bool false, .pointer (some ⟨gq7s0, 0, none⟩), .pointer (some ⟨gq7s1, 0, none⟩), .pointer (some ⟨w.heap.size, 0, none⟩), .agg X, .agg X, .pointer (some ⟨w.heap.size, 0, none⟩), .agg X, .bool false, .bool false, .pointer (some ⟨w.heap.size, 4, none⟩), .agg Y, .agg Y, .pointer (some ⟨w.heap.size, 4, none⟩), .agg Y, .bool false, .bool false, .pointer (some ⟨w.heap.size, 0, none⟩), .agg X, .pointer (some ⟨w.heap.size, 0, none⟩), .agg X, .agg NN6, .pointer (some ⟨w.heap.size, 4, none⟩), .agg Y, .pointer (some ⟨w.heap.size, 4, none⟩), .agg Y, .agg NN9, undef, undef, undef, undef, undef, undef, undef, undef, undef, undef, undef], defers := [] } ∧ Kt w [(gq7s0, NN6, 24), (gq7s1, NN9, 24)] W' ∧ w.heap.size ≤ gq7s0 ∧ w.heap.size ≤ gq7s1 ∧ gq7s0 ≠ w.heap.size ∧ gq7s1 ≠ w.heap.size ∧ gq7s1 ≠ gq7s0) ?_ ?_
  · refine wp_region_any (by kernel_rfl) ?_
    change wpAny _ _ _ _ _ _ _ (World.drew _)
    have HDq7x1 := HS6.out.drew
    clear HS6
    generalize w5.drew = wdq7x2 at *
    refine any_of_F (S := Kt w [(w.heap.size, Pa, 26)]) (f := 1000) _ _ _ _ ?_
    refine F_have 2 #[true, true, true, true, true, true, true, true, true, true, true, true, false, false] (fun a W => ∃ gjq7_0_0 gjq7_0_1, a = { tmps := #[.agg Pa, .pointer (some ⟨w.heap.size, 0, none⟩), .bool false, .pointer (some ⟨gjq7_0_0, 0, none⟩), .pointer (some ⟨gjq7_0_1, 0, none⟩), .pointer (some ⟨w.heap.size, 0, none⟩), .agg X, .agg X, .pointer (some ⟨w.heap.size, 0, none⟩), .agg X, .bool false, .bool false, .pointer (some ⟨w.heap.size, 4, none⟩), .agg Y, .agg Y, .pointer (some ⟨w.heap.size, 4, none⟩), .agg Y, .bool false, .bool false, .pointer (some ⟨w.heap.size, 0, none⟩), .agg X, .pointer (some ⟨w.heap.size, 0, none⟩), .agg X, .agg NN6, .pointer (some ⟨w.heap.size, 4, none⟩), .agg Y, .pointer (some ⟨w.heap.size, 4, none⟩), .agg Y, .agg NN9, undef, undef, undef, undef, undef, undef, undef, undef, undef, undef, undef], defers := [] } ∧ Kt w [(w.heap.size, Pa, 26)] W ∧ Kt w [(gjq7_0_0, NN8, 24), (gjq7_0_1, NN8, 24)] W ∧ w.heap.size ≤ gjq7_0_0 ∧ w.heap.size ≤ gjq7_0_1 ∧ gjq7_0_0 ≠ w.heap.size ∧ gjq7_0_1 ≠ w.heap.size ∧ gjq7_0_1 ≠ gjq7_0_0) ?_ ?_
    · rintro a wq7x11 ⟨gjq7_0_0, gjq7_0_1, rfl, Hq7x12, Eq7x13, fJq7_0_0, fJq7_0_1, fJq7_0_2, fJq7_0_3, fJq7_0_4⟩
      refine rdy [12] (ReadyF.op0 (.store 24 (.tmp 3) (.tmp 23)) rfl (fun o ho => exec_store24 wq7x11 (.tmp 3) (.tmp 23) ho (gjq7_0_0) rfl NN6 INN6 rfl NN8 24 (Eq7x13.get (gjq7_0_0) NN8 24 (by simp)) SZNN8) (Hq7x12.set (gjq7_0_0) NN6 NN8 24 (Eq7x13.get (gjq7_0_0) NN8 24 (by simp)) (by omega) (fun p hp => by simp at hp; subst hp; exact .inr ⟨by simp, by simp only; omega⟩)) ?_ ReadyF.nil)
      have Hq7x15 := Hq7x12.set (gjq7_0_0) NN6 NN8 24 (Eq7x13.get (gjq7_0_0) NN8 24 (by simp)) (by omega) (m := [(w.heap.size, Pa, 26)]) (fun p hp => by simp at hp; subst hp; exact .inr ⟨by simp, by simp only; omega⟩)
      have Eq7x16 := Eq7x13.set (gjq7_0_0) NN6 NN8 24 (Eq7x13.get (gjq7_0_0) NN8 24 (by simp)) (by omega) (m := [(gjq7_0_0, NN6, 24), (gjq7_0_1, NN8, 24)]) (fun p hp => by simp at hp; rcases hp with rfl | rfl <;> first | exact .inl rfl | exact .inr ⟨by simp, by simp only; omega⟩)
      generalize wq7x11.setRow (gjq7_0_0) NN6 = wq7x14 at *
      refine rdy [13] (ReadyF.op0 (.store 24 (.tmp 4) (.tmp 28)) rfl (fun o ho => exec_store24 wq7x14 (.tmp 4) (.tmp 28) ho (gjq7_0_1) rfl NN9 INN9 rfl NN8 24 (Eq7x16.get (gjq7_0_1) NN8 24 (by simp)) SZNN8) (Hq7x15.set (gjq7_0_1) NN9 NN8 24 (Eq7x16.get (gjq7_0_1) NN8 24 (by simp)) (by omega) (fun p hp => by simp at hp; subst hp; exact .inr ⟨by simp, by simp only; omega⟩)) ?_ ReadyF.nil)
      have Hq7x18 := Hq7x15.set (gjq7_0_1) NN9 NN8 24 (Eq7x16.get (gjq7_0_1) NN8 24 (by simp)) (by omega) (m := [(w.heap.size, Pa, 26)]) (fun p hp => by simp at hp; subst hp; exact .inr ⟨by simp, by simp only; omega⟩)
      have Eq7x19 := Eq7x16.set (gjq7_0_1) NN9 NN8 24 (Eq7x16.get (gjq7_0_1) NN8 24 (by simp)) (by omega) (m := [(gjq7_0_0, NN6, 24), (gjq7_0_1, NN9, 24)]) (fun p hp => by simp at hp; rcases hp with rfl | rfl <;> first | exact .inl rfl | exact .inr ⟨by simp, by simp only; omega⟩)
      generalize wq7x14.setRow (gjq7_0_1) NN9 = wq7x17 at *
      refine AnyF.done (by kernel_rfl) ?_ _
      refine nrm_intro ⟨gjq7_0_0, gjq7_0_1, rfl, (Hq7x18.app Eq7x19).sub (fun p hp => by simp at hp; rcases hp with rfl | rfl <;> simp), by omega, by omega, by omega, by omega, by omega⟩
    intro Jq7_0
    refine F_have 3 #[true, true, true, true, true, true, true, true, true, true, true, false, false, false] (fun a W => ∃ gjq7_1_0, a = { tmps := #[.agg Pa, .pointer (some ⟨w.heap.size, 0, none⟩), .bool false, .pointer (some ⟨gjq7_1_0, 0, none⟩), undef, .pointer (some ⟨w.heap.size, 0, none⟩), .agg X, .agg X, .pointer (some ⟨w.heap.size, 0, none⟩), .agg X, .bool false, .bool false, .pointer (some ⟨w.heap.size, 4, none⟩), .agg Y, .agg Y, .pointer (some ⟨w.heap.size, 4, none⟩), .agg Y, .bool false, .bool false, .pointer (some ⟨w.heap.size, 0, none⟩), .agg X, .pointer (some ⟨w.heap.size, 0, none⟩), .agg X, .agg NN6, .pointer (some ⟨w.heap.size, 4, none⟩), .agg Y, .pointer (some ⟨w.heap.size, 4, none⟩), .agg Y, .agg NN9, undef, undef, undef, undef, undef, undef, undef, undef, undef, undef, undef], defers := [] } ∧ Kt w [(w.heap.size, Pa, 26)] W ∧ Kt w [(gjq7_1_0, NN8, 24)] W ∧ w.heap.size ≤ gjq7_1_0 ∧ gjq7_1_0 ≠ w.heap.size) ?_ ?_
    · rintro a wq7x20 ⟨gjq7_1_0, rfl, Hq7x21, Eq7x22, fJq7_1_0, fJq7_1_1⟩
      refine rdy [11] (ral 4 24 HZ24 (Hq7x21.alloc _) ?_ ReadyF.nil)
      have l0wq7x23 := Hq7x21.lt (w.heap.size) Pa 26 (by simp)
      have m0wq7x23 := Eq7x22.lt (gjq7_1_0) NN8 24 (by simp)
      have bwq7x23 := Hq7x21.1.size
      have Hq7x24 := Hq7x21.alloc (.cells NN8 24)
      have Eq7x25 := Eq7x22.new NN8 24
      simp only [Act.put, sT, sS, sZ]
      obtain ⟨wq7x23, hwq7x23⟩ : ∃ W, W = wq7x20.alloc (.cells NN8 24) := ⟨_, rfl⟩
      rw [← hwq7x23] at Hq7x24 Eq7x25 ⊢
      clear hwq7x23
      exact F_to (by kernel_rfl) (by kernel_rfl) (Jq7_0 _ _ ⟨gjq7_1_0, wq7x20.heap.size, rfl, Hq7x24, Eq7x25.sub (fun p hp => by simp at hp; rcases hp with rfl | rfl <;> simp), by omega, by omega, by omega, by omega, by omega⟩)
    intro Jq7_1
    refine F_have 3 #[true, true, true, true, true, true, true, true, true, true, false, true, false, false] (fun a W => ∃ gjq7_2_0, a = { tmps := #[.agg Pa, .pointer (some ⟨w.heap.size, 0, none⟩), .bool false, undef, .pointer (some ⟨gjq7_2_0, 0, none⟩), .pointer (some ⟨w.heap.size, 0, none⟩), .agg X, .agg X, .pointer (some ⟨w.heap.size, 0, none⟩), .agg X, .bool false, .bool false, .pointer (some ⟨w.heap.size, 4, none⟩), .agg Y, .agg Y, .pointer (some ⟨w.heap.size, 4, none⟩), .agg Y, .bool false, .bool false, .pointer (some ⟨w.heap.size, 0, none⟩), .agg X, .pointer (some ⟨w.heap.size, 0, none⟩), .agg X, .agg NN6, .pointer (some ⟨w.heap.size, 4, none⟩), .agg Y, .pointer (some ⟨w.heap.size, 4, none⟩), .agg Y, .agg NN9, undef, undef, undef, undef, undef, undef, undef, undef, undef, undef, undef], defers := [] } ∧ Kt w [(w.heap.size, Pa, 26)] W ∧ Kt w [(gjq7_2_0, NN8, 24)] W ∧ w.heap.size ≤ gjq7_2_0 ∧ gjq7_2_0 ≠ w.heap.size) ?_ ?_
    · rintro a wq7x26 ⟨gjq7_2_0, rfl, Hq7x27, Eq7x28, fJq7_2_0, fJq7_2_1⟩
      refine rdy [10] (ral 3 24 HZ24 (Hq7x27.alloc _) ?_ ReadyF.nil)
      have l0wq7x29 := Hq7x27.lt (w.heap.size) Pa 26 (by simp)
      have m0wq7x29 := Eq7x28.lt (gjq7_2_0) NN8 24 (by simp)
      have bwq7x29 := Hq7x27.1.size
      have Hq7x30 := Hq7x27.alloc (.cells NN8 24)
      have Eq7x31 := Eq7x28.new NN8 24
      simp only [Act.put, sT, sS, sZ]
      obtain ⟨wq7x29, hwq7x29⟩ : ∃ W, W = wq7x26.alloc (.cells NN8 24) := ⟨_, rfl⟩
      rw [← hwq7x29] at Hq7x30 Eq7x31 ⊢
      clear hwq7x29
      exact F_to (by kernel_rfl) (by kernel_rfl) (Jq7_0 _ _ ⟨wq7x26.heap.size, gjq7_2_0, rfl, Hq7x30, Eq7x31, by omega, by omega, by omega, by omega, by omega⟩)
    intro Jq7_2
    refine F_have 3 #[true, true, true, true, true, true, true, true, true, false, true, true, false, false] (fun a W => ∃ gjq7_3_0 gjq7_3_1, a = { tmps := #[.agg Pa, .pointer (some ⟨w.heap.size, 0, none⟩), .bool false, .pointer (some ⟨gjq7_3_0, 0, none⟩), .pointer (some ⟨gjq7_3_1, 0, none⟩), .pointer (some ⟨w.heap.size, 0, none⟩), .agg X, .agg X, .pointer (some ⟨w.heap.size, 0, none⟩), .agg X, .bool false, .bool false, .pointer (some ⟨w.heap.size, 4, none⟩), .agg Y, .agg Y, .pointer (some ⟨w.heap.size, 4, none⟩), .agg Y, .bool false, .bool false, .pointer (some ⟨w.heap.size, 0, none⟩), .agg X, .pointer (some ⟨w.heap.size, 0, none⟩), .agg X, .agg NN6, .pointer (some ⟨w.heap.size, 4, none⟩), .agg Y, .pointer (some ⟨w.heap.size, 4, none⟩), .agg Y, undef, undef, undef, undef, undef, undef, undef, undef, undef, undef, undef, undef], defers := [] } ∧ Kt w [(w.heap.size, Pa, 26)] W ∧ Kt w [(gjq7_3_0, NN8, 24), (gjq7_3_1, NN8, 24)] W ∧ w.heap.size ≤ gjq7_3_0 ∧ w.heap.size ≤ gjq7_3_1 ∧ gjq7_3_0 ≠ w.heap.size ∧ gjq7_3_1 ≠ w.heap.size ∧ gjq7_3_1 ≠ gjq7_3_0) ?_ ?_
    · rintro a wq7x32 ⟨gjq7_3_0, gjq7_3_1, rfl, Hq7x33, Eq7x34, fJq7_3_0, fJq7_3_1, fJq7_3_2, fJq7_3_3, fJq7_3_4⟩
      refine rdy [9] (rcl (some 28) 40 #[.tmp 25, .tmp 27] #[24, 24] #[.agg Y, .agg Y] en40 _ (HC10.out _) ?_ ReadyF.nil)
      rintro v wq7x35 ⟨he, hb⟩
      cases he
      have Hq7x36 := Hq7x33.below hb
      have Eq7x37 := Eq7x34.below hb
      clear hb
      refine ⟨Hq7x36, ?_⟩
      simp only [Act.put, sT, sS, sZ]
      exact F_to (by kernel_rfl) (by kernel_rfl) (Jq7_0 _ _ ⟨gjq7_3_0, gjq7_3_1, rfl, Hq7x36, Eq7x37, by omega, by omega, by omega, by omega, by omega⟩)
    intro Jq7_3
    refine F_have 4 #[true, true, true, true, true, true, true, true, true, false, true, false, false, false] (fun a W => ∃ gjq7_4_0, a = { tmps := #[.agg Pa, .pointer (some ⟨w.heap.size, 0, none⟩), .bool false, .pointer (some ⟨gjq7_4_0, 0, none⟩), undef, .pointer (some ⟨w.heap.size, 0, none⟩), .agg X, .agg X, .pointer (some ⟨w.heap.size, 0, none⟩), .agg X, .bool false, .bool false, .pointer (some ⟨w.heap.size, 4, none⟩), .agg Y, .agg Y, .pointer (some ⟨w.heap.size, 4, none⟩), .agg Y, .bool false, .bool false, .pointer (some ⟨w.heap.size, 0, none⟩), .agg X, .pointer (some ⟨w.heap.size, 0, none⟩), .agg X, .agg NN6, .pointer (some ⟨w.heap.size, 4, none⟩), .agg Y, .pointer (some ⟨w.heap.size, 4, none⟩), .agg Y, undef, undef, undef, undef, undef, undef, undef, undef, undef, undef, undef, undef], defers := [] } ∧ Kt w [(w.heap.size, Pa, 26)] W ∧ Kt w [(gjq7_4_0, NN8, 24)] W ∧ w.heap.size ≤ gjq7_4_0 ∧ gjq7_4_0 ≠ w.heap.size) ?_ ?_
    · rintro a wq7x38 ⟨gjq7_4_0, rfl, Hq7x39, Eq7x40, fJq7_4_0, fJq7_4_1⟩
      refine rdy [9, 11] (rcl (some 28) 40 #[.tmp 25, .tmp 27] #[24, 24] #[.agg Y, .agg Y] en40 _ (HC10.out _) ?_ (ral 4 24 HZ24 (Hq7x39.alloc _) ?_ ReadyF.nil))
      · rintro v wq7x41 ⟨he, hb⟩
        cases he
        have Hq7x42 := Hq7x39.below hb
        have Eq7x43 := Eq7x40.below hb
        clear hb
        refine ⟨Hq7x42, ?_⟩
        simp only [Act.put, sT, sS, sZ]
        exact F_to (by kernel_rfl) (by kernel_rfl) (Jq7_1 _ _ ⟨gjq7_4_0, rfl, Hq7x42, Eq7x43, by omega, by omega⟩)
      · have l0wq7x44 := Hq7x39.lt (w.heap.size) Pa 26 (by simp)
        have m0wq7x44 := Eq7x40.lt (gjq7_4_0) NN8 24 (by simp)
        have bwq7x44 := Hq7x39.1.size
        have Hq7x45 := Hq7x39.alloc (.cells NN8 24)
        have Eq7x46 := Eq7x40.new NN8 24
        simp only [Act.put, sT, sS, sZ]
        obtain ⟨wq7x44, hwq7x44⟩ : ∃ W, W = wq7x38.alloc (.cells NN8 24) := ⟨_, rfl⟩
        rw [← hwq7x44] at Hq7x45 Eq7x46 ⊢
        clear hwq7x44
        exact F_to (by kernel_rfl) (by kernel_rfl) (Jq7_3 _ _ ⟨gjq7_4_0, wq7x38.heap.size, rfl, Hq7x45, Eq7x46.sub (fun p hp => by simp at hp; rcases hp with rfl | rfl <;> simp), by omega, by omega, by omega, by omega, by omega⟩)
    intro Jq7_4
    refine F_have 4 #[true, true, true, true, true, true, true, true, true, false, false, true, false, false] (fun a W => ∃ gjq7_5_0, a = { tmps := #[.agg Pa, .pointer (some ⟨w.heap.size, 0, none⟩), .bool false, undef, .pointer (some ⟨gjq7_5_0, 0, none⟩), .pointer (some ⟨w.heap.size, 0, none⟩), .agg X, .agg X, .pointer (some ⟨w.heap.size, 0, none⟩), .agg X, .bool false, .bool false, .pointer (some ⟨w.heap.size, 4, none⟩), .agg Y, .agg Y, .pointer (some ⟨w.heap.size, 4, none⟩), .agg Y, .bool false, .bool false, .pointer (some ⟨w.heap.size, 0, none⟩), .agg X, .pointer (some ⟨w.heap.size, 0, none⟩), .agg X, .agg NN6, .pointer (some ⟨w.heap.size, 4, none⟩), .agg Y, .pointer (some ⟨w.heap.size, 4, none⟩), .agg Y, undef, undef, undef, undef, undef, undef, undef, undef, undef, undef, undef, undef], defers := [] } ∧ Kt w [(w.heap.size, Pa, 26)] W ∧ Kt w [(gjq7_5_0, NN8, 24)] W ∧ w.heap.size ≤ gjq7_5_0 ∧ gjq7_5_0 ≠ w.heap.size) ?_ ?_
    · rintro a wq7x47 ⟨gjq7_5_0, rfl, Hq7x48, Eq7x49, fJq7_5_0, fJq7_5_1⟩
      refine rdy [9, 10] (rcl (some 28) 40 #[.tmp 25, .tmp 27] #[24, 24] #[.agg Y, .agg Y] en40 _ (HC10.out _) ?_ (ral 3 24 HZ24 (Hq7x48.alloc _) ?_ ReadyF.nil))
      · rintro v wq7x50 ⟨he, hb⟩
        cases he
        have Hq7x51 := Hq7x48.below hb
        have Eq7x52 := Eq7x49.below hb
        clear hb
        refine ⟨Hq7x51, ?_⟩
        simp only [Act.put, sT, sS, sZ]
        exact F_to (by kernel_rfl) (by kernel_rfl) (Jq7_2 _ _ ⟨gjq7_5_0, rfl, Hq7x51, Eq7x52, by omega, by omega⟩)
      · have l0wq7x53 := Hq7x48.lt (w.heap.size) Pa 26 (by simp)
        have m0wq7x53 := Eq7x49.lt (gjq7_5_0) NN8 24 (by simp)
        have bwq7x53 := Hq7x48.1.size
        have Hq7x54 := Hq7x48.alloc (.cells NN8 24)
        have Eq7x55 := Eq7x49.new NN8 24
        simp only [Act.put, sT, sS, sZ]
        obtain ⟨wq7x53, hwq7x53⟩ : ∃ W, W = wq7x47.alloc (.cells NN8 24) := ⟨_, rfl⟩
        rw [← hwq7x53] at Hq7x54 Eq7x55 ⊢
        clear hwq7x53
        exact F_to (by kernel_rfl) (by kernel_rfl) (Jq7_3 _ _ ⟨wq7x47.heap.size, gjq7_5_0, rfl, Hq7x54, Eq7x55, by omega, by omega, by omega, by omega, by omega⟩)
    intro Jq7_5
    refine F_have 4 #[true, true, true, true, false, true, true, true, true, false, true, true, false, false] (fun a W => ∃ gjq7_6_0 gjq7_6_1, a = { tmps := #[.agg Pa, .pointer (some ⟨w.heap.size, 0, none⟩), .bool false, .pointer (some ⟨gjq7_6_0, 0, none⟩), .pointer (some ⟨gjq7_6_1, 0, none⟩), .pointer (some ⟨w.heap.size, 0, none⟩), .agg X, .agg X, .pointer (some ⟨w.heap.size, 0, none⟩), .agg X, .bool false, .bool false, .pointer (some ⟨w.heap.size, 4, none⟩), .agg Y, .agg Y, .pointer (some ⟨w.heap.size, 4, none⟩), .agg Y, .bool false, .bool false, .pointer (some ⟨w.heap.size, 0, none⟩), .agg X, .pointer (some ⟨w.heap.size, 0, none⟩), .agg X, undef, .pointer (some ⟨w.heap.size, 4, none⟩), .agg Y, .pointer (some ⟨w.heap.size, 4, none⟩), .agg Y, undef, undef, undef, undef, undef, undef, undef, undef, undef, undef, undef, undef], defers := [] } ∧ Kt w [(w.heap.size, Pa, 26)] W ∧ Kt w [(gjq7_6_0, NN8, 24), (gjq7_6_1, NN8, 24)] W ∧ w.heap.size ≤ gjq7_6_0 ∧ w.heap.size ≤ gjq7_6_1 ∧ gjq7_6_0 ≠ w.heap.size ∧ gjq7_6_1 ≠ w.heap.size ∧ gjq7_6_1 ≠ gjq7_6_0) ?_ ?_
    · rintro a wq7x56 ⟨gjq7_6_0, gjq7_6_1, rfl, Hq7x57, Eq7x58, fJq7_6_0, fJq7_6_1, fJq7_6_2, fJq7_6_3, fJq7_6_4⟩
      refine rdy [4] (rcl (some 23) 40 #[.tmp 20, .tmp 22] #[24, 24] #[.agg X, .agg X] en40 _ (HC7.out _) ?_ ReadyF.nil)
      rintro v wq7x59 ⟨he, hb⟩
      cases he
      have Hq7x60 := Hq7x57.below hb
      have Eq7x61 := Eq7x58.below hb
      clear hb
      refine ⟨Hq7x60, ?_⟩
      simp only [Act.put, sT, sS, sZ]
      exact F_to (by kernel_rfl) (by kernel_rfl) (Jq7_3 _ _ ⟨gjq7_6_0, gjq7_6_1, rfl, Hq7x60, Eq7x61, by omega, by omega, by omega, by omega, by omega⟩)
    intro Jq7_6
    refine tkG 0 (some 19) (.fieldAddr 26 (.tmp 1) 0) none (.pointer (some ⟨w.heap.size, 0, none⟩)) (fun o ho w2 hw => exec_field 26 (.tmp 1) 0 ho _ _ rfl w2 (fa26_0 (w.heap.size) w2)) HDq7x1 ?_
    simp only [Act.put, sT, sS, sZ]
    refine tkG 1 (some 20) (.load 24 (.tmp 19)) none (.agg X) (fun o ho w2 hw => exec_load_of _ 24 (.tmp 19) ho ⟨w.heap.size, 0, none⟩ rfl _ (load_part (hw.get (w.heap.size) Pa 26 (by simp)) IX 0 SPa_0)) HDq7x1 ?_
    simp only [Act.put, sT, sS, sZ]
    refine tkG 2 (some 21) (.fieldAddr 26 (.tmp 1) 0) none (.pointer (some ⟨w.heap.size, 0, none⟩)) (fun o ho w2 hw => exec_field 26 (.tmp 1) 0 ho _ _ rfl w2 (fa26_0 (w.heap.size) w2)) HDq7x1 ?_
    simp only [Act.put, sT, sS, sZ]
    refine tkG 3 (some 22) (.load 24 (.tmp 21)) none (.agg X) (fun o ho w2 hw => exec_load_of _ 24 (.tmp 21) ho ⟨w.heap.size, 0, none⟩ rfl _ (load_part (hw.get (w.heap.size) Pa 26 (by simp)) IX 0 SPa_0)) HDq7x1 ?_
    simp only [Act.put, sT, sS, sZ]
    refine tkG 5 (some 24) (.fieldAddr 26 (.tmp 1) 1) none (.pointer (some ⟨w.heap.size, 4, none⟩)) (fun o ho w2 hw => exec_field 26 (.tmp 1) 1 ho _ _ rfl w2 (fa26_1 (w.heap.size) w2)) HDq7x1 ?_
    simp only [Act.put, sT, sS, sZ]
    refine tkG 6 (some 25) (.load 24 (.tmp 24)) none (.agg Y) (fun o ho w2 hw => exec_load_of _ 24 (.tmp 24) ho ⟨w.heap.size, 4, none⟩ rfl _ (load_part (hw.get (w.heap.size) Pa 26 (by simp)) IY 4 SPa_4)) HDq7x1 ?_
    simp only [Act.put, sT, sS, sZ]
    refine tkG 7 (some 26) (.fieldAddr 26 (.tmp 1) 1) none (.pointer (some ⟨w.heap.size, 4, none⟩)) (fun o ho w2 hw => exec_field 26 (.tmp 1) 1 ho _ _ rfl w2 (fa26_1 (w.heap.size) w2)) HDq7x1 ?_
    simp only [Act.put, sT, sS, sZ]
    refine tkG 8 (some 27) (.load 24 (.tmp 26)) none (.agg Y) (fun o ho w2 hw => exec_load_of _ 24 (.tmp 26) ho ⟨w.heap.size, 4, none⟩ rfl _ (load_part (hw.get (w.heap.size) Pa 26 (by simp)) IY 4 SPa_4)) HDq7x1 ?_
    simp only [Act.put, sT, sS, sZ]
    refine rdy [4, 10, 11] (rcl (some 23) 40 #[.tmp 20, .tmp 22] #[24, 24] #[.agg X, .agg X] en40 _ (HC7.out _) ?_ (ral 3 24 HZ24 (HDq7x1.alloc _) ?_ (ral 4 24 HZ24 (HDq7x1.alloc _) ?_ ReadyF.nil)))
    · rintro v wq7x62 ⟨he, hb⟩
      cases he
      have Hq7x63 := HDq7x1.below hb
      clear hb
      refine ⟨Hq7x63, ?_⟩
      simp only [Act.put, sT, sS, sZ]
      refine rdy [9, 10, 11] (rcl (some 28) 40 #[.tmp 25, .tmp 27] #[24, 24] #[.agg Y, .agg Y] en40 _ (HC10.out _) ?_ (ral 3 24 HZ24 (Hq7x63.alloc _) ?_ (ral 4 24 HZ24 (Hq7x63.alloc _) ?_ ReadyF.nil)))
      · rintro v wq7x64 ⟨he, hb⟩
        cases he
        have Hq7x65 := Hq7x63.below hb
        clear hb
        refine ⟨Hq7x65, ?_⟩
        simp only [Act.put, sT, sS, sZ]
        refine rdy [10, 11] (ral 3 24 HZ24 (Hq7x65.alloc _) ?_ (ral 4 24 HZ24 (Hq7x65.alloc _) ?_ ReadyF.nil))
        · have l0wq7x66 := Hq7x65.lt (w.heap.size) Pa 26 (by simp)
          have bwq7x66 := Hq7x65.1.size
          have Hq7x67 := Hq7x65.alloc (.cells NN8 24)
          have Eq7x68 := (Hq7x65.sub (m := []) (fun p hp => by cases hp)).new NN8 24
          simp only [Act.put, sT, sS, sZ]
          obtain ⟨wq7x66, hwq7x66⟩ : ∃ W, W = wq7x64.alloc (.cells NN8 24) := ⟨_, rfl⟩
          rw [← hwq7x66] at Hq7x67 Eq7x68 ⊢
          clear hwq7x66
          exact F_to (by kernel_rfl) (by kernel_rfl) (Jq7_1 _ _ ⟨wq7x64.heap.size, rfl, Hq7x67, Eq7x68, by omega, by omega⟩)
        · have l0wq7x69 := Hq7x65.lt (w.heap.size) Pa 26 (by simp)
          have bwq7x69 := Hq7x65.1.size
          have Hq7x70 := Hq7x65.alloc (.cells NN8 24)
          have Eq7x71 := (Hq7x65.sub (m := []) (fun p hp => by cases hp)).new NN8 24
          simp only [Act.put, sT, sS, sZ]
          obtain ⟨wq7x69, hwq7x69⟩ : ∃ W, W = wq7x64.alloc (.cells NN8 24) := ⟨_, rfl⟩
          rw [← hwq7x69] at Hq7x70 Eq7x71 ⊢
          clear hwq7x69
          exact F_to (by kernel_rfl) (by kernel_rfl) (Jq7_2 _ _ ⟨wq7x64.heap.size, rfl, Hq7x70, Eq7x71, by omega, by omega⟩)
      · have l0wq7x72 := Hq7x63.lt (w.heap.size) Pa 26 (by simp)
        have bwq7x72 := Hq7x63.1.size
        have Hq7x73 := Hq7x63.alloc (.cells NN8 24)
        have Eq7x74 := (Hq7x63.sub (m := []) (fun p hp => by cases hp)).new NN8 24
        simp only [Act.put, sT, sS, sZ]
        obtain ⟨wq7x72, hwq7x72⟩ : ∃ W, W = wq7x62.alloc (.cells NN8 24) := ⟨_, rfl⟩
        rw [← hwq7x72] at Hq7x73 Eq7x74 ⊢
        clear hwq7x72
        exact F_to (by kernel_rfl) (by kernel_rfl) (Jq7_4 _ _ ⟨wq7x62.heap.size, rfl, Hq7x73, Eq7x74, by omega, by omega⟩)
      · have l0wq7x75 := Hq7x63.lt (w.heap.size) Pa 26 (by simp)
        have bwq7x75 := Hq7x63.1.size
        have Hq7x76 := Hq7x63.alloc (.cells NN8 24)
        have Eq7x77 := (Hq7x63.sub (m := []) (fun p hp => by cases hp)).new NN8 24
        simp only [Act.put, sT, sS, sZ]
        obtain ⟨wq7x75, hwq7x75⟩ : ∃ W, W = wq7x62.alloc (.cells NN8 24) := ⟨_, rfl⟩
        rw [← hwq7x75] at Hq7x76 Eq7x77 ⊢
        clear hwq7x75
        exact F_to (by kernel_rfl) (by kernel_rfl) (Jq7_5 _ _ ⟨wq7x62.heap.size, rfl, Hq7x76, Eq7x77, by omega, by omega⟩)
    · have l0wq7x78 := HDq7x1.lt (w.heap.size) Pa 26 (by simp)
      have bwq7x78 := HDq7x1.1.size
      have Hq7x79 := HDq7x1.alloc (.cells NN8 24)
      have Eq7x80 := (HDq7x1.sub (m := []) (fun p hp => by cases hp)).new NN8 24
      simp only [Act.put, sT, sS, sZ]
      obtain ⟨wq7x78, hwq7x78⟩ : ∃ W, W = wdq7x2.alloc (.cells NN8 24) := ⟨_, rfl⟩
      rw [← hwq7x78] at Hq7x79 Eq7x80 ⊢
      clear hwq7x78
      refine rdy [4, 11] (rcl (some 23) 40 #[.tmp 20, .tmp 22] #[24, 24] #[.agg X, .agg X] en40 _ (HC7.out _) ?_ (ral 4 24 HZ24 (Hq7x79.alloc _) ?_ ReadyF.nil))
      · rintro v wq7x81 ⟨he, hb⟩
        cases he
        have Hq7x82 := Hq7x79.below hb
        have Eq7x83 := Eq7x80.below hb
        clear hb
        refine ⟨Hq7x82, ?_⟩
        simp only [Act.put, sT, sS, sZ]
        exact F_to (by kernel_rfl) (by kernel_rfl) (Jq7_4 _ _ ⟨wdq7x2.heap.size, rfl, Hq7x82, Eq7x83, by omega, by omega⟩)
      · have l0wq7x84 := Hq7x79.lt (w.heap.size) Pa 26 (by simp)
        have m0wq7x84 := Eq7x80.lt (wdq7x2.heap.size) NN8 24 (by simp)
        have bwq7x84 := Hq7x79.1.size
        have Hq7x85 := Hq7x79.alloc (.cells NN8 24)
        have Eq7x86 := Eq7x80.new NN8 24
        simp only [Act.put, sT, sS, sZ]
        obtain ⟨wq7x84, hwq7x84⟩ : ∃ W, W = wq7x78.alloc (.cells NN8 24) := ⟨_, rfl⟩
        rw [← hwq7x84] at Hq7x85 Eq7x86 ⊢
        clear hwq7x84
        exact F_to (by kernel_rfl) (by kernel_rfl) (Jq7_6 _ _ ⟨wdq7x2.heap.size, wq7x78.heap.size, rfl, Hq7x85, Eq7x86.sub (fun p hp => by simp at hp; rcases hp with rfl | rfl <;> simp), by omega, by omega, by omega, by omega, by omega⟩)
    · have l0wq7x87 := HDq7x1.lt (w.heap.size) Pa 26 (by simp)
      have bwq7x87 := HDq7x1.1.size
      have Hq7x88 := HDq7x1.alloc (.cells NN8 24)
      have Eq7x89 := (HDq7x1.sub (m := []) (fun p hp => by cases hp)).new NN8 24
      simp only [Act.put, sT, sS, sZ]
      obtain ⟨wq7x87, hwq7x87⟩ : ∃ W, W = wdq7x2.alloc (.cells NN8 24) := ⟨_, rfl⟩
      rw [← hwq7x87] at Hq7x88 Eq7x89 ⊢
      clear hwq7x87
      refine rdy [4, 10] (rcl (some 23) 40 #[.tmp 20, .tmp 22] #[24, 24] #[.agg X, .agg X] en40 _ (HC7.out _) ?_ (ral 3 24 HZ24 (Hq7x88.alloc _) ?_ ReadyF.nil))
      · rintro v wq7x90 ⟨he, hb⟩
        cases he
        have Hq7x91 := Hq7x88.below hb
        have Eq7x92 := Eq7x89.below hb
        clear hb
        refine ⟨Hq7x91, ?_⟩
        simp only [Act.put, sT, sS, sZ]
        exact F_to (by kernel_rfl) (by kernel_rfl) (Jq7_5 _ _ ⟨wdq7x2.heap.size, rfl, Hq7x91, Eq7x92, by omega, by omega⟩)
      · have l0wq7x93 := Hq7x88.lt (w.heap.size) Pa 26 (by simp)
        have m0wq7x93 := Eq7x89.lt (wdq7x2.heap.size) NN8 24 (by simp)
        have bwq7x93 := Hq7x88.1.size
        have Hq7x94 := Hq7x88.alloc (.cells NN8 24)
        have Eq7x95 := Eq7x89.new NN8 24
        simp only [Act.put, sT, sS, sZ]
        obtain ⟨wq7x93, hwq7x93⟩ : ∃ W, W = wq7x87.alloc (.cells NN8 24) := ⟨_, rfl⟩
        rw [← hwq7x93] at Hq7x94 Eq7x95 ⊢
        clear hwq7x93
        exact F_to (by kernel_rfl) (by kernel_rfl) (Jq7_6 _ _ ⟨wq7x87.heap.size, wdq7x2.heap.size, rfl, Hq7x94, Eq7x95, by omega, by omega, by omega, by omega, by omega⟩)
  rintro a' w8 ⟨gq7s0, gq7s1, rfl, hk, e10, e11, e12, e13, e14⟩
  have HS9 := Lib.hid hk
  clear hk HS6
  go_upto_region 4 with fail
  refine wp_cut (fun a' W' => a' = { tmps := #[.agg Pa, .pointer (some ⟨w.heap.size, 0, none⟩), .bool b, .pointer (some ⟨gq7s0, 0, none⟩), .pointer (some ⟨gq7s1, 0, none⟩), .pointer (some ⟨w.heap.size, 0, none⟩), .agg X, .agg X, .pointer (some ⟨w.heap.size, 0, none⟩), .agg X, .bool false, .bool false, .pointer (some ⟨w.heap.size, 4, none⟩), .agg Y, .agg Y, .pointer (some ⟨w.heap.size, 4, none⟩), .agg Y, .bool false, .bool false, .pointer (some ⟨w.heap.size, 0, none⟩), .agg X, .pointer (some ⟨w.heap.size, 0, none⟩), .agg X, .agg NN6, .pointer (some ⟨w.heap.size, 4, none⟩), .agg Y, .pointer (some ⟨w.heap.size, 4, none⟩), .agg Y, .agg NN9, .agg NN9, .agg NN6, .agg NN1, .agg NN12, .agg NN13, .agg NN6, .agg NN9, .agg NN15, .agg NN17, .agg NN2, .bool b], defers := [] } ∧ Kt w [] W') ?_ ?_
  · refine wp_region_any (by kernel_rfl) ?_
    change wpAny _ _ _ _ _ _ _ (World.drew _)
    have HDq15x1 := HS9.out.drew
    clear HS9
    generalize w8.drew = wdq15x2 at *
    refine any_of_F (S := Kt w [(gq7s0, NN6, 24), (gq7s1, NN9, 24)]) (f := 1000) _ _ _ _ ?_
    refine tkG 0 (some 29) (.load 24 (.tmp 4)) none (.agg NN9) (fun o ho w2 hw => exec_load_of _ 24 (.tmp 4) ho ⟨gq7s1, 0, none⟩ rfl _ (loadA24 INN9 (hw.get (gq7s1) NN9 24 (by simp)))) HDq15x1 ?_
    simp only [Act.put, sT, sS, sZ]
    refine tkG 1 (some 30) (.load 24 (.tmp 3)) none (.agg NN6) (fun o ho w2 hw => exec_load_of _ 24 (.tmp 3) ho ⟨gq7s0, 0, none⟩ rfl _ (loadA24 INN6 (hw.get (gq7s0) NN6 24 (by simp)))) HDq15x1 ?_
    simp only [Act.put, sT, sS, sZ]
    refine tkG 3 (some 32) (.build 24 #[(0, .const (.int .u64 1))]) none (.agg NN12) (fun o ho w2 hw => exec_buildN _ 24 #[(0, .const (.int .u64 1))] ho #[(0, .int .u64 1)] (by simp [Act.eval]) _ (BF11 _)) HDq15x1 ?_
    simp only [Act.put, sT, sS, sZ]
    refine tkG 4 (some 33) (.load 24 (.global 0)) none (.agg NN13) (fun o ho w2 hw => exec_load_of _ 24 (.global 0) ho ⟨0, 0, none⟩ rfl _ (LD _ (hw.1))) HDq15x1 ?_
    simp only [Act.put, sT, sS, sZ]
    refine tkG 5 (some 34) (.load 24 (.tmp 3)) none (.agg NN6) (fun o ho w2 hw => exec_load_of _ 24 (.tmp 3) ho ⟨gq7s0, 0, none⟩ rfl _ (loadA24 INN6 (hw.get (gq7s0) NN6 24 (by simp)))) HDq15x1 ?_
    simp only [Act.put, sT, sS, sZ]
    refine tkG 6 (some 35) (.load 24 (.tmp 4)) none (.agg NN9) (fun o ho w2 hw => exec_load_of _ 24 (.tmp 4) ho ⟨gq7s1, 0, none⟩ rfl _ (loadA24 INN9 (hw.get (gq7s1) NN9 24 (by simp)))) HDq15x1 ?_
    simp only [Act.put, sT, sS, sZ]
    refine rdy [2] (rcl (some 31) 30 #[.tmp 29, .tmp 30] #[24, 24] #[.agg NN9, .agg NN6] en30 _ (HC14.out _) ?_ ReadyF.nil)
    rintro v wq15x11 ⟨he, hb⟩
    cases he
    have Hq15x12 := HDq15x1.below hb
    clear hb
    refine ⟨Hq15x12, ?_⟩
    simp only [Act.put, sT, sS, sZ]
    refine rdy [7] (rcl (some 36) 40 #[.tmp 34, .tmp 35] #[24, 24] #[.agg NN6, .agg NN9] en40 _ (HC16.out _) ?_ ReadyF.nil)
    rintro v wq15x13 ⟨he, hb⟩
    cases he
    have Hq15x14 := Hq15x12.below hb
    clear hb
    refine ⟨Hq15x14, ?_⟩
    simp only [Act.put, sT, sS, sZ]
    refine rdy [8] (rcl (some 37) 40 #[.tmp 33, .tmp 36] #[24, 24] #[.agg NN13, .agg NN15] en40 _ (HC18.out _) ?_ ReadyF.nil)
    rintro v wq15x15 ⟨he, hb⟩
    cases he
    have Hq15x16 := Hq15x14.below hb
    clear hb
    refine ⟨Hq15x16, ?_⟩
    simp only [Act.put, sT, sS, sZ]
    refine rdy [9] (rcl (some 38) 41 #[.tmp 32, .tmp 37] #[24, 24] #[.agg NN12, .agg NN17] en41 _ (HC19.out _) ?_ ReadyF.nil)
    rintro v wq15x17 ⟨he, hb⟩
    cases he
    have Hq15x18 := Hq15x16.below hb
    clear hb
    refine ⟨Hq15x18, ?_⟩
    simp only [Act.put, sT, sS, sZ]
    refine tkG 10 (some 39) (.binOp .eql 24 (.tmp 31) (.tmp 38) 24) none (.bool b) (fun o ho w2 hw => exec_eqv (.tmp 31) (.tmp 38) ho NN1 NN2 EQ3 rfl rfl w2) Hq15x18 ?_
    simp only [Act.put, sT, sS, sZ]
    refine tkG 11 (some 2) (.assign (.tmp 39)) none (.bool b) (fun o ho w2 hw => exec_assign (.tmp 39) ho _ rfl w2) Hq15x18 ?_
    simp only [Act.put, sT, sS, sZ]
    refine AnyF.done (by kernel_rfl) ?_ _
    refine nrm_intro ⟨rfl, Hq15x18.sub (fun p hp => by cases hp)⟩
  rintro a' w16 ⟨rfl, hk⟩
  have HS17 := Lib.hid hk
  clear hk HS9
  go_wp2
  go_ret
  exact ⟨rfl, HS17.out.1⟩
theorem on_pt (x y : Nat) (h : onN (x, y)) (w : World) (hG0 : Glob w) :
    Calls Tryd.prog 13 #[.agg (num x ++ num y)] w fun e w' => e = .returned (.bool true) ∧ Below w.heap.size w w' := by
  have e := on_any_3 x y (pp_lt h.1) (pp_lt h.2.1) h.1 h.2.1 w hG0
  rw [(onT_iff _).2 h] at e
  exact e
end Go.Proofs.YtgbliacncahooaaDoor
