/- On of package point: whether two numbers are a point. No condition but that they have 256 bits, and that the curve's number stands in memory. -/
import Derived.Test.YtgbliacncahooaaDoorGOnP
namespace Go.Proofs.YtgbliacncahooaaDoor
open Go.RowKit Go.Shelf
set_option linter.unusedVariables false
set_option linter.unusedSimpArgs false
set_option maxRecDepth 100000 in
set_option maxHeartbeats 2000000 in
theorem on_any_1 (x y : Nat) (hx : x < 115792089237316195423570985008687907853269984665640564039457584007913129639936) (hy : y < 115792089237316195423570985008687907853269984665640564039457584007913129639936) (h1 : ¬ x < pp) (w : World) (hG0 : Glob w) :
    Calls Tryd.prog 13 #[.agg (num x ++ num y)] w fun e w' => e = .returned (.bool (onT (x, y))) ∧ Below w.heap.size w w' := by
  have HG := Lib.hid hG0
  rw [show onT (x, y) = false by unfold onT; simp only; rw [decide_eq_false h1]; rfl]
  have HC3 := Lib.hid (norm_any (x) hx)
  obtain ⟨X, hX⟩ : ∃ zz9, Hid (zz9 = num (x)) := ⟨_, Lib.hid rfl⟩
  have IX : IsNum X := by rw [hX.out]; exact isNum _
  obtain ⟨Y, hY⟩ : ∃ zz9, Hid (zz9 = num (y)) := ⟨_, Lib.hid rfl⟩
  have IY : IsNum Y := by rw [hY.out]; exact isNum _
  obtain ⟨Pa, hPa⟩ : ∃ zz9, Hid (zz9 = X ++ Y) := ⟨_, Lib.hid rfl⟩
  have IPa : IsRw 8 Pa := by rw [hPa.out]; exact rw_app (isRw4 IX) (isRw4 IY)
  have SPa_0 : Part Pa 0 X := by rw [hPa.out]; exact part_left 0 (part_all X) Y
  have SPa_4 : Part Pa 4 Y := by rw [hPa.out]; exact part_right (X) Y 4 (by simp [IX.size])
  obtain ⟨NN1, hNN1⟩ : ∃ zz9, Hid (zz9 = num ((x) % pp)) := ⟨_, Lib.hid rfl⟩
  have INN1 : IsNum NN1 := by rw [hNN1.out]; exact isNum _
  have EQ2 : ∀ w, (Op.equalIn 10000 24 (.agg NN1) (.agg X)).run Tryd.prog w = .ok false w := by rw [hNN1.out, hX.out]; exact eq_num ((x) % pp) (x) (pp_lt (Nat.mod_lt _ pp_pos)) hx false (by apply decide_eq_false; intro h; exact h1 (h ▸ Nat.mod_lt _ pp_pos))
  try simp only [← hX.out, ← hY.out, ← hNN1.out] at HC3 ⊢
  try simp only [← hPa.out] at HC3 ⊢
  clear hX hY hPa hNN1 h1 hx hy hG0
  go_enter Tryd.func13, Tryd.ntmps13
  have HS : Hid (Kt w [] w) := Lib.hid (Kt.nil w)
  go_upto_region 0 with fail
  refine wp_region_list ?_
  refine wpList_run rfl _ (exec_box _ 26 (.tmp 0) rfl _ rfl (Pa) rfl) ?_
  simp only [Act.put, sT, sS, sZ]
  have bg3 := HS.out.1.size
  have HS2 := Lib.hid (HS.out.new Pa 26)
  clear HS
  generalize w.alloc (.cells Pa 26) = w1 at *
  refine wpList_run rfl (.bool false) (exec_assign (.const (.bool false)) rfl _ rfl _) ?_
  simp only [Act.put, sT, sS, sZ]
  refine wpList_nil ?_
  go_upto_region 1 with fail
  refine wp_cut (fun a' W' => a' = { tmps := #[.agg Pa, .pointer (some ⟨w.heap.size, 0, none⟩), .bool false, undef, undef, .pointer (some ⟨w.heap.size, 0, none⟩), .agg X, .agg NN1, .pointer (some ⟨w.heap.size, 0, none⟩), .agg X, .bool true, .bool true, undef, undef, undef, undef, undef, undef, .bool true, undef, undef, undef, undef, undef, undef, undef, undef, undef, undef, undef, undef, undef, undef, undef, undef, undef, undef, undef, undef, undef], defers := [] } ∧ Kt w [] W') ?_ ?_
  · refine wp_region_any (by kernel_rfl) ?_
    change wpAny _ _ _ _ _ _ _ (World.drew _)
    have HDq4x1 := HS2.out.drew
    clear HS2
    generalize w1.drew = wdq4x2 at *
    refine any_of_F (S := Kt w [(w.heap.size, Pa, 26)]) (f := 1000) _ _ _ _ ?_
    refine tkG 0 (some 5) (.fieldAddr 26 (.tmp 1) 0) none (.pointer (some ⟨w.heap.size, 0, none⟩)) (fun o ho w2 hw => exec_field 26 (.tmp 1) 0 ho _ _ rfl w2 (fa26_0 (w.heap.size) w2)) HDq4x1 ?_
    simp only [Act.put, sT, sS, sZ]
    refine tkG 1 (some 6) (.load 24 (.tmp 5)) none (.agg X) (fun o ho w2 hw => exec_load_of _ 24 (.tmp 5) ho ⟨w.heap.size, 0, none⟩ rfl _ (load_part (hw.get (w.heap.size) Pa 26 (by simp)) IX 0 SPa_0)) HDq4x1 ?_
    simp only [Act.put, sT, sS, sZ]
    refine tkG 3 (some 8) (.fieldAddr 26 (.tmp 1) 0) none (.pointer (some ⟨w.heap.size, 0, none⟩)) (fun o ho w2 hw => exec_field 26 (.tmp 1) 0 ho _ _ rfl w2 (fa26_0 (w.heap.size) w2)) HDq4x1 ?_
    simp only [Act.put, sT, sS, sZ]
    refine tkG 4 (some 9) (.load 24 (.tmp 8)) none (.agg X) (fun o ho w2 hw => exec_load_of _ 24 (.tmp 8) ho ⟨w.heap.size, 0, none⟩ rfl _ (load_part (hw.get (w.heap.size) Pa 26 (by simp)) IX 0 SPa_0)) HDq4x1 ?_
    simp only [Act.put, sT, sS, sZ]
    refine rdy [2] (rcl (some 7) 39 #[.tmp 6] #[24] #[.agg X] en39 _ (HC3.out _) ?_ ReadyF.nil)
    rintro v wq4x11 ⟨he, hb⟩
    cases he
    have Hq4x12 := HDq4x1.below hb
    clear hb
    refine ⟨Hq4x12, ?_⟩
    simp only [Act.put, sT, sS, sZ]
    refine tkG 5 (some 10) (.binOp .neq 24 (.tmp 7) (.tmp 9) 24) none (.bool true) (fun o ho w2 hw => exec_nev (.tmp 7) (.tmp 9) ho NN1 X EQ2 rfl rfl rfl w2) Hq4x12 ?_
    simp only [Act.put, sT, sS, sZ]
    refine tkG 6 (some 11) (.move (.tmp 10)) none (.bool true) (fun o ho w2 hw => exec_move (.tmp 10) ho _ rfl w2) Hq4x12 ?_
    simp only [Act.put, sT, sS, sZ]
    refine skG 7 (some 12) (.fieldAddr 26 (.tmp 1) 1) (some (6, false)) Hq4x12 ?_
    simp only [Act.put, sT, sS, sZ]
    refine skG 8 (some 13) (.load 24 (.tmp 12)) (some (6, false)) Hq4x12 ?_
    simp only [Act.put, sT, sS, sZ]
    refine skG 9 (some 14) (.call { callee := .value (.func 39), args := #[.tmp 13], argTypes := #[24] }) (some (6, false)) Hq4x12 ?_
    simp only [Act.put, sT, sS, sZ]
    refine skG 10 (some 15) (.fieldAddr 26 (.tmp 1) 1) (some (6, false)) Hq4x12 ?_
    simp only [Act.put, sT, sS, sZ]
    refine skG 11 (some 16) (.load 24 (.tmp 15)) (some (6, false)) Hq4x12 ?_
    simp only [Act.put, sT, sS, sZ]
    refine skG 12 (some 17) (.binOp .neq 24 (.tmp 14) (.tmp 16) 24) (some (6, false)) Hq4x12 ?_
    simp only [Act.put, sT, sS, sZ]
    refine tkG 13 (some 18) (.pick (.tmp 11) (.const (.bool true)) (.tmp 17)) none (.bool true) (fun o ho w2 hw => exec_pickt (.tmp 11) (.const (.bool true)) (.tmp 17) ho rfl _ rfl w2) Hq4x12 ?_
    simp only [Act.put, sT, sS, sZ]
    refine AnyF.done (by kernel_rfl) ?_ _
    refine nrm_intro ⟨rfl, Hq4x12.sub (fun p hp => by cases hp)⟩
  rintro a' w5 ⟨rfl, hk⟩
  have HS6 := Lib.hid hk
  clear hk HS2
  go_upto_region 2 with fail
  refine wp_region_list ?_
  refine wpList_run rfl (.bool false) (exec_assign (.const (.bool false)) rfl _ rfl _) ?_
  simp only [Act.put, sT, sS, sZ]
  refine wpList_nil ?_
  go_wp2
  go_ret
  exact ⟨rfl, HS6.out.1⟩
set_option maxRecDepth 100000 in
set_option maxHeartbeats 2000000 in
theorem on_any_2 (x y : Nat) (hx : x < 115792089237316195423570985008687907853269984665640564039457584007913129639936) (hy : y < 115792089237316195423570985008687907853269984665640564039457584007913129639936) (h1 : x < pp) (h2 : ¬ y < pp) (w : World) (hG0 : Glob w) :
    Calls Tryd.prog 13 #[.agg (num x ++ num y)] w fun e w' => e = .returned (.bool (onT (x, y))) ∧ Below w.heap.size w w' := by
  have HG := Lib.hid hG0
  rw [show onT (x, y) = false by unfold onT; simp only; rw [decide_eq_true h1, decide_eq_false h2]; rfl]
  have HC3 := Lib.hid (norm_any (x) hx)
  rw [Nat.mod_eq_of_lt h1] at HC3
  have HC4 := Lib.hid (norm_any (y) hy)
  obtain ⟨X, hX⟩ : ∃ zz9, Hid (zz9 = num (x)) := ⟨_, Lib.hid rfl⟩
  have IX : IsNum X := by rw [hX.out]; exact isNum _
  obtain ⟨Y, hY⟩ : ∃ zz9, Hid (zz9 = num (y)) := ⟨_, Lib.hid rfl⟩
  have IY : IsNum Y := by rw [hY.out]; exact isNum _
  obtain ⟨Pa, hPa⟩ : ∃ zz9, Hid (zz9 = X ++ Y) := ⟨_, Lib.hid rfl⟩
  have IPa : IsRw 8 Pa := by rw [hPa.out]; exact rw_app (isRw4 IX) (isRw4 IY)
  have SPa_0 : Part Pa 0 X := by rw [hPa.out]; exact part_left 0 (part_all X) Y
  have SPa_4 : Part Pa 4 Y := by rw [hPa.out]; exact part_right (X) Y 4 (by simp [IX.size])
  obtain ⟨NN1, hNN1⟩ : ∃ zz9, Hid (zz9 = num ((y) % pp)) := ⟨_, Lib.hid rfl⟩
  have INN1 : IsNum NN1 := by rw [hNN1.out]; exact isNum _
  have EQ2 : ∀ w, (Op.equalIn 10000 24 (.agg NN1) (.agg Y)).run Tryd.prog w = .ok false w := by rw [hNN1.out, hY.out]; exact eq_num ((y) % pp) (y) (pp_lt (Nat.mod_lt _ pp_pos)) hy false (by apply decide_eq_false; intro h; exact h2 (h ▸ Nat.mod_lt _ pp_pos))
  try simp only [← hX.out, ← hY.out, ← hNN1.out] at HC3 HC4 ⊢
  try simp only [← hPa.out] at HC3 HC4 ⊢
  clear hX hY hPa hNN1 h1 h2 hx hy hG0
  go_enter Tryd.func13, Tryd.ntmps13
  have HS : Hid (Kt w [] w) := Lib.hid (Kt.nil w)
  go_upto_region 0 with fail
  refine wp_region_list ?_
  refine wpList_run rfl _ (exec_box _ 26 (.tmp 0) rfl _ rfl (Pa) rfl) ?_
  simp only [Act.put, sT, sS, sZ]
  have bg3 := HS.out.1.size
  have HS2 := Lib.hid (HS.out.new Pa 26)
  clear HS
  generalize w.alloc (.cells Pa 26) = w1 at *
  refine wpList_run rfl (.bool false) (exec_assign (.const (.bool false)) rfl _ rfl _) ?_
  simp only [Act.put, sT, sS, sZ]
  refine wpList_nil ?_
  go_upto_region 1 with fail
  refine wp_cut (fun a' W' => a' = { tmps := #[.agg Pa, .pointer (some ⟨w.heap.size, 0, none⟩), .bool false, undef, undef, .pointer (some ⟨w.heap.size, 0, none⟩), .agg X, .agg X, .pointer (some ⟨w.heap.size, 0, none⟩), .agg X, .bool false, .bool false, .pointer (some ⟨w.heap.size, 4, none⟩), .agg Y, .agg NN1, .pointer (some ⟨w.heap.size, 4, none⟩), .agg Y, .bool true, .bool true, undef, undef, undef, undef, undef, undef, undef, undef, undef, undef, undef, undef, undef, undef, undef, undef, undef, undef, undef, undef, undef], defers := [] } ∧ Kt w [] W') ?_ ?_
  · refine wp_region_any (by kernel_rfl) ?_
    change wpAny _ _ _ _ _ _ _ (World.drew _)
    have HDq4x1 := HS2.out.drew
    clear HS2
    generalize w1.drew = wdq4x2 at *
    refine any_of_F (S := Kt w [(w.heap.size, Pa, 26)]) (f := 1000) _ _ _ _ ?_
    refine tkG 0 (some 5) (.fieldAddr 26 (.tmp 1) 0) none (.pointer (some ⟨w.heap.size, 0, none⟩)) (fun o ho w2 hw => exec_field 26 (.tmp 1) 0 ho _ _ rfl w2 (fa26_0 (w.heap.size) w2)) HDq4x1 ?_
    simp only [Act.put, sT, sS, sZ]
    refine tkG 1 (some 6) (.load 24 (.tmp 5)) none (.agg X) (fun o ho w2 hw => exec_load_of _ 24 (.tmp 5) ho ⟨w.heap.size, 0, none⟩ rfl _ (load_part (hw.get (w.heap.size) Pa 26 (by simp)) IX 0 SPa_0)) HDq4x1 ?_
    simp only [Act.put, sT, sS, sZ]
    refine tkG 3 (some 8) (.fieldAddr 26 (.tmp 1) 0) none (.pointer (some ⟨w.heap.size, 0, none⟩)) (fun o ho w2 hw => exec_field 26 (.tmp 1) 0 ho _ _ rfl w2 (fa26_0 (w.heap.size) w2)) HDq4x1 ?_
    simp only [Act.put, sT, sS, sZ]
    refine tkG 4 (some 9) (.load 24 (.tmp 8)) none (.agg X) (fun o ho w2 hw => exec_load_of _ 24 (.tmp 8) ho ⟨w.heap.size, 0, none⟩ rfl _ (load_part (hw.get (w.heap.size) Pa 26 (by simp)) IX 0 SPa_0)) HDq4x1 ?_
    simp only [Act.put, sT, sS, sZ]
    refine rdy [2] (rcl (some 7) 39 #[.tmp 6] #[24] #[.agg X] en39 _ (HC3.out _) ?_ ReadyF.nil)
    rintro v wq4x11 ⟨he, hb⟩
    cases he
    have Hq4x12 := HDq4x1.below hb
    clear hb
    refine ⟨Hq4x12, ?_⟩
    simp only [Act.put, sT, sS, sZ]
    refine tkG 5 (some 10) (.binOp .neq 24 (.tmp 7) (.tmp 9) 24) none (.bool false) (fun o ho w2 hw => exec_neA (.tmp 7) (.tmp 9) ho X IX rfl rfl w2) Hq4x12 ?_
    simp only [Act.put, sT, sS, sZ]
    refine tkG 6 (some 11) (.move (.tmp 10)) none (.bool false) (fun o ho w2 hw => exec_move (.tmp 10) ho _ rfl w2) Hq4x12 ?_
    simp only [Act.put, sT, sS, sZ]
    refine tkG 7 (some 12) (.fieldAddr 26 (.tmp 1) 1) (some (6, false)) (.pointer (some ⟨w.heap.size, 4, none⟩)) (fun o ho w2 hw => exec_field 26 (.tmp 1) 1 ho _ _ rfl w2 (fa26_1 (w.heap.size) w2)) Hq4x12 ?_
    simp only [Act.put, sT, sS, sZ]
    refine tkG 8 (some 13) (.load 24 (.tmp 12)) (some (6, false)) (.agg Y) (fun o ho w2 hw => exec_load_of _ 24 (.tmp 12) ho ⟨w.heap.size, 4, none⟩ rfl _ (load_part (hw.get (w.heap.size) Pa 26 (by simp)) IY 4 SPa_4)) Hq4x12 ?_
    simp only [Act.put, sT, sS, sZ]
    refine tkG 10 (some 15) (.fieldAddr 26 (.tmp 1) 1) (some (6, false)) (.pointer (some ⟨w.heap.size, 4, none⟩)) (fun o ho w2 hw => exec_field 26 (.tmp 1) 1 ho _ _ rfl w2 (fa26_1 (w.heap.size) w2)) Hq4x12 ?_
    simp only [Act.put, sT, sS, sZ]
    refine tkG 11 (some 16) (.load 24 (.tmp 15)) (some (6, false)) (.agg Y) (fun o ho w2 hw => exec_load_of _ 24 (.tmp 15) ho ⟨w.heap.size, 4, none⟩ rfl _ (load_part (hw.get (w.heap.size) Pa 26 (by simp)) IY 4 SPa_4)) Hq4x12 ?_
    simp only [Act.put, sT, sS, sZ]
    refine rdy [9] (rclG (some 14) 39 #[.tmp 13] #[24] (some (6, false)) #[.agg Y] en39 _ (HC4.out _) ?_ ReadyF.nil)
    rintro v wq4x13 ⟨he, hb⟩
    cases he
    have Hq4x14 := Hq4x12.below hb
    clear hb
    refine ⟨Hq4x14, ?_⟩
    simp only [Act.put, sT, sS, sZ]
    refine tkG 12 (some 17) (.binOp .neq 24 (.tmp 14) (.tmp 16) 24) (some (6, false)) (.bool true) (fun o ho w2 hw => exec_nev (.tmp 14) (.tmp 16) ho NN1 Y EQ2 rfl rfl rfl w2) Hq4x14 ?_
    simp only [Act.put, sT, sS, sZ]
    refine tkG 13 (some 18) (.pick (.tmp 11) (.const (.bool true)) (.tmp 17)) none (.bool true) (fun o ho w2 hw => exec_pickf (.tmp 11) (.const (.bool true)) (.tmp 17) ho rfl _ rfl w2) Hq4x14 ?_
    simp only [Act.put, sT, sS, sZ]
    refine AnyF.done (by kernel_rfl) ?_ _
    refine nrm_intro ⟨rfl, Hq4x14.sub (fun p hp => by cases hp)⟩
  rintro a' w5 ⟨rfl, hk⟩
  have HS6 := Lib.hid hk
  clear hk HS2
  go_upto_region 2 with fail
  refine wp_region_list ?_
  refine wpList_run rfl (.bool false) (exec_assign (.const (.bool false)) rfl _ rfl _) ?_
  simp only [Act.put, sT, sS, sZ]
  refine wpList_nil ?_
  go_wp2
  go_ret
  exact ⟨rfl, HS6.out.1⟩
theorem on_any (x y : Nat) (hx : x < 115792089237316195423570985008687907853269984665640564039457584007913129639936) (hy : y < 115792089237316195423570985008687907853269984665640564039457584007913129639936) (w : World) (hG0 : Glob w) :
    Calls Tryd.prog 13 #[.agg (num x ++ num y)] w fun e w' => e = .returned (.bool (onT (x, y))) ∧ Below w.heap.size w w' := by
  by_cases h1 : x < pp
  · by_cases h2 : y < pp
    · exact on_any_3 x y hx hy h1 h2 w hG0
    · exact on_any_2 x y hx hy h1 h2 w hG0
  · exact on_any_1 x y hx hy h1 w hG0
end Go.Proofs.YtgbliacncahooaaDoor
