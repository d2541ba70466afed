/- Bytes of package point: a point's number in 32 bytes. No condition but that X has 256 bits, and that Y is below the prime. -/
import Derived.Test.YtgbliacncahooaaDoorGOpA
namespace Go.Proofs.YtgbliacncahooaaDoor
open Go.RowKit Go.Shelf
set_option linter.unusedVariables false
set_option linter.unusedSimpArgs false
set_option maxRecDepth 100000 in
set_option maxHeartbeats 2000000 in
theorem bytes_0 (x y : Nat) (hx : x < 115792089237316195423570985008687907853269984665640564039457584007913129639936) (hy : y < pp) (h0 : x % 2 = 0) (w : World) :
    Calls Tryd.prog 22 #[.agg (num x ++ num y)] w fun e w' => e = .returned (.string ⟨(bytesN (encP (x, y))).toArray⟩) ∧ Below w.heap.size w w' := by
  obtain ⟨m, b, hmb, hm, hv⟩ := top_byte y (pp_lt hy)
  have H1 := Lib.hid (bytes_any y (pp_lt hy))
  rw [Nat.mod_eq_of_lt hy, hmb] at H1
  have h128 := top_small hy hv
  obtain ⟨c, hor1, hc⟩ := or_b b h128
  have hor := Lib.hid hor1
  obtain ⟨x0, hx0⟩ : ∃ x0, Hid (x0 = dig x 0) := ⟨_, Lib.hid rfl⟩
  have hpar : Hid (x0 % 2 = 0) := Lib.hid (by rw [hx0.out, dig0_odd]; exact h0)
  rw [enc_even h0, hmb]
  clear hmb hv h128 hor1 hc
  obtain ⟨X, hX⟩ : ∃ zz9, Hid (zz9 = num (x)) := ⟨_, Lib.hid rfl⟩
  have IX : IsNum X := by rw [hX.out]; exact isNum _
  obtain ⟨Y, hY⟩ : ∃ zz9, Hid (zz9 = num (y)) := ⟨_, Lib.hid rfl⟩
  have IY : IsNum Y := by rw [hY.out]; exact isNum _
  obtain ⟨Pa, hPa⟩ : ∃ zz9, Hid (zz9 = X ++ Y) := ⟨_, Lib.hid rfl⟩
  have IPa : IsRw 8 Pa := by rw [hPa.out]; exact rw_app (isRw4 IX) (isRw4 IY)
  have SPa_0 : Part Pa 0 X := by rw [hPa.out]; exact part_left 0 (part_all X) Y
  have SPa_4 : Part Pa 4 Y := by rw [hPa.out]; exact part_right (X) Y 4 (by simp [IX.size])
  have CPa_0 : Pa[0]? = some (.int .u64 (x0 : Int)) := by rw [hPa.out, hX.out, hx0.out]; exact part_left 0 (part_all (num x)) _ 0 _ (num_get x 0 (by decide))
  try simp only [← hX.out, ← hY.out] at  H1 ⊢
  try simp only [← hPa.out] at  H1 ⊢
  clear hX hY hPa hx hy h0 hx0
  go_enter Tryd.func22, Tryd.ntmps22
  have HS : Hid (Kt w [] w) := Lib.hid (Kt.nil w)
  go_upto_region 0 with fail
  refine wp_region_list ?_
  refine wpList_run rfl _ (exec_box _ 26 (.tmp 0) rfl _ rfl (Pa) rfl) ?_
  simp only [Act.put, sT, sS, sZ]
  have bg3 := HS.out.1.size
  have HS2 := Lib.hid (HS.out.new Pa 26)
  clear HS
  generalize w.alloc (.cells Pa 26) = w1 at *
  refine wpList_run rfl (.string { data := #[] }) (exec_assign (.const (.string { data := #[] })) rfl _ rfl _) ?_
  simp only [Act.put, sT, sS, sZ]
  refine wpList_nil ?_
  go_upto_region 1 with fail
  refine wp_region_list ?_
  refine wpList_run rfl (.pointer (some ⟨w.heap.size, 4, none⟩)) (exec_field 26 (.tmp 1) 1 rfl _ _ rfl _ (fa26_1 (w.heap.size) _)) ?_
  simp only [Act.put, sT, sS, sZ]
  refine wpList_run rfl (.agg Y) (exec_load_of _ 24 (.tmp 4) rfl ⟨w.heap.size, 4, none⟩ rfl _ (load_part (HS2.out.get (w.heap.size) Pa 26 (by simp)) IY 4 SPa_4)) ?_
  simp only [Act.put, sT, sS, sZ]
  refine wpList_callF rfl 49 #[.tmp 5] #[24] rfl #[.agg Y] en49 (H1.out _) ?_
  rintro v w4 ⟨he, hb⟩
  cases he
  have HS5 := Lib.hid (HS2.out.below hb)
  clear hb HS2
  simp only [Act.put, sT, sS, sZ]
  obtain ⟨cap10, w6, hcv, hbf, hbl, hlt⟩ := conv_buf w4 (m ++ [b]) (len31 b hm)
  refine wpList_run rfl _ (exec_convG 9 44 (.tmp 6) rfl _ rfl _ _ _ hcv) ?_
  simp only [Act.put, sT, sS, sZ]
  have lgb8_0 := HS5.out.lt (w.heap.size) Pa 26 (by simp)
  have bgb8 := HS5.out.1.size
  have HS7 := Lib.hid (HS5.out.below hbl)
  have HB9 := Lib.hid hbf
  clear HS5 hcv hbf hbl
  generalize w4.heap.size = gb8 at *
  refine wpList_run rfl (.slice (some ⟨gb8, 0, none⟩) 32 cap10) (exec_assign (.tmp 7) rfl _ rfl _) ?_
  simp only [Act.put, sT, sS, sZ]
  refine wpList_nil ?_
  go_upto_region 2 with fail
  refine wp_region_list ?_
  refine wpList_run rfl (.pointer (some ⟨w.heap.size, 0, none⟩)) (exec_field 26 (.tmp 1) 0 rfl _ _ rfl _ (fa26_0 (w.heap.size) _)) ?_
  simp only [Act.put, sT, sS, sZ]
  refine wpList_run rfl (.pointer (some ⟨w.heap.size, 0, none⟩)) (exec_indexAddr24 (.tmp 8) (.const (.int .i64 0)) rfl (w.heap.size) 0 rfl rfl (by decide) _) ?_
  simp only [Act.put, sT, sS, sZ]
  refine wpList_run rfl (.int .u64 (x0 : Int)) (exec_load_one _ 22 (.tmp 9) rfl ⟨w.heap.size, 0, none⟩ rfl _ (cell_part (HS7.out.get (w.heap.size) Pa 26 (by simp)) 0 _ CPa_0) _ Tryd.underlying22 rfl) ?_
  simp only [Act.put, sT, sS, sZ]
  refine wpList_run rfl (.int .u64 (0 : Int)) (exec_rem2 (.tmp 10) rfl rfl x0 0 hpar.out rfl _) ?_
  simp only [Act.put, sT, sS, sZ]
  refine wpList_run rfl (.bool false) (exec_gtr22 (.tmp 11) rfl rfl 0 false rfl (by decide) _) ?_
  simp only [Act.put, sT, sS, sZ]
  refine wpList_nil ?_
  have HS11 : Hid (Kt w [] w6) := Lib.hid (HS7.out.sub (fun p hp => by cases hp))
  clear HS7
  go_upto_region 4 with fail
  refine wp_region_list ?_
  refine wpList_run rfl (.slice (some ⟨gb8, 0, none⟩) 32 cap10) (exec_move (.tmp 3) rfl _ rfl _) ?_
  simp only [Act.put, sT, sS, sZ]
  refine wpList_run rfl (.string ⟨(m ++ [b]).toArray⟩) (exec_convG 44 9 (.tmp 18) rfl _ rfl _ _ _ (HB9.out.str (len31 b hm))) ?_
  simp only [Act.put, sT, sS, sZ]
  refine wpList_run rfl (.string ⟨(m ++ [b]).toArray⟩) (exec_assign (.tmp 19) rfl _ rfl _) ?_
  simp only [Act.put, sT, sS, sZ]
  refine wpList_nil ?_
  go_wp2
  go_ret
  exact ⟨rfl, HS11.out.1⟩
set_option maxRecDepth 100000 in
set_option maxHeartbeats 2000000 in
theorem bytes_1 (x y : Nat) (hx : x < 115792089237316195423570985008687907853269984665640564039457584007913129639936) (hy : y < pp) (h0 : x % 2 = 1) (w : World) :
    Calls Tryd.prog 22 #[.agg (num x ++ num y)] w fun e w' => e = .returned (.string ⟨(bytesN (encP (x, y))).toArray⟩) ∧ Below w.heap.size w w' := by
  obtain ⟨m, b, hmb, hm, hv⟩ := top_byte y (pp_lt hy)
  have H1 := Lib.hid (bytes_any y (pp_lt hy))
  rw [Nat.mod_eq_of_lt hy, hmb] at H1
  have h128 := top_small hy hv
  obtain ⟨c, hor1, hc⟩ := or_b b h128
  have hor := Lib.hid hor1
  obtain ⟨x0, hx0⟩ : ∃ x0, Hid (x0 = dig x 0) := ⟨_, Lib.hid rfl⟩
  have hpar : Hid (x0 % 2 = 1) := Lib.hid (by rw [hx0.out, dig0_odd]; exact h0)
  rw [enc_odd h0 hm hv hc]
  clear hmb hv h128 hor1 hc
  obtain ⟨X, hX⟩ : ∃ zz9, Hid (zz9 = num (x)) := ⟨_, Lib.hid rfl⟩
  have IX : IsNum X := by rw [hX.out]; exact isNum _
  obtain ⟨Y, hY⟩ : ∃ zz9, Hid (zz9 = num (y)) := ⟨_, Lib.hid rfl⟩
  have IY : IsNum Y := by rw [hY.out]; exact isNum _
  obtain ⟨Pa, hPa⟩ : ∃ zz9, Hid (zz9 = X ++ Y) := ⟨_, Lib.hid rfl⟩
  have IPa : IsRw 8 Pa := by rw [hPa.out]; exact rw_app (isRw4 IX) (isRw4 IY)
  have SPa_0 : Part Pa 0 X := by rw [hPa.out]; exact part_left 0 (part_all X) Y
  have SPa_4 : Part Pa 4 Y := by rw [hPa.out]; exact part_right (X) Y 4 (by simp [IX.size])
  have CPa_0 : Pa[0]? = some (.int .u64 (x0 : Int)) := by rw [hPa.out, hX.out, hx0.out]; exact part_left 0 (part_all (num x)) _ 0 _ (num_get x 0 (by decide))
  try simp only [← hX.out, ← hY.out] at  H1 ⊢
  try simp only [← hPa.out] at  H1 ⊢
  clear hX hY hPa hx hy h0 hx0
  go_enter Tryd.func22, Tryd.ntmps22
  have HS : Hid (Kt w [] w) := Lib.hid (Kt.nil w)
  go_upto_region 0 with fail
  refine wp_region_list ?_
  refine wpList_run rfl _ (exec_box _ 26 (.tmp 0) rfl _ rfl (Pa) rfl) ?_
  simp only [Act.put, sT, sS, sZ]
  have bg3 := HS.out.1.size
  have HS2 := Lib.hid (HS.out.new Pa 26)
  clear HS
  generalize w.alloc (.cells Pa 26) = w1 at *
  refine wpList_run rfl (.string { data := #[] }) (exec_assign (.const (.string { data := #[] })) rfl _ rfl _) ?_
  simp only [Act.put, sT, sS, sZ]
  refine wpList_nil ?_
  go_upto_region 1 with fail
  refine wp_region_list ?_
  refine wpList_run rfl (.pointer (some ⟨w.heap.size, 4, none⟩)) (exec_field 26 (.tmp 1) 1 rfl _ _ rfl _ (fa26_1 (w.heap.size) _)) ?_
  simp only [Act.put, sT, sS, sZ]
  refine wpList_run rfl (.agg Y) (exec_load_of _ 24 (.tmp 4) rfl ⟨w.heap.size, 4, none⟩ rfl _ (load_part (HS2.out.get (w.heap.size) Pa 26 (by simp)) IY 4 SPa_4)) ?_
  simp only [Act.put, sT, sS, sZ]
  refine wpList_callF rfl 49 #[.tmp 5] #[24] rfl #[.agg Y] en49 (H1.out _) ?_
  rintro v w4 ⟨he, hb⟩
  cases he
  have HS5 := Lib.hid (HS2.out.below hb)
  clear hb HS2
  simp only [Act.put, sT, sS, sZ]
  obtain ⟨cap10, w6, hcv, hbf, hbl, hlt⟩ := conv_buf w4 (m ++ [b]) (len31 b hm)
  refine wpList_run rfl _ (exec_convG 9 44 (.tmp 6) rfl _ rfl _ _ _ hcv) ?_
  simp only [Act.put, sT, sS, sZ]
  have lgb8_0 := HS5.out.lt (w.heap.size) Pa 26 (by simp)
  have bgb8 := HS5.out.1.size
  have HS7 := Lib.hid (HS5.out.below hbl)
  have HB9 := Lib.hid hbf
  clear HS5 hcv hbf hbl
  generalize w4.heap.size = gb8 at *
  refine wpList_run rfl (.slice (some ⟨gb8, 0, none⟩) 32 cap10) (exec_assign (.tmp 7) rfl _ rfl _) ?_
  simp only [Act.put, sT, sS, sZ]
  refine wpList_nil ?_
  go_upto_region 2 with fail
  refine wp_region_list ?_
  refine wpList_run rfl (.pointer (some ⟨w.heap.size, 0, none⟩)) (exec_field 26 (.tmp 1) 0 rfl _ _ rfl _ (fa26_0 (w.heap.size) _)) ?_
  simp only [Act.put, sT, sS, sZ]
  refine wpList_run rfl (.pointer (some ⟨w.heap.size, 0, none⟩)) (exec_indexAddr24 (.tmp 8) (.const (.int .i64 0)) rfl (w.heap.size) 0 rfl rfl (by decide) _) ?_
  simp only [Act.put, sT, sS, sZ]
  refine wpList_run rfl (.int .u64 (x0 : Int)) (exec_load_one _ 22 (.tmp 9) rfl ⟨w.heap.size, 0, none⟩ rfl _ (cell_part (HS7.out.get (w.heap.size) Pa 26 (by simp)) 0 _ CPa_0) _ Tryd.underlying22 rfl) ?_
  simp only [Act.put, sT, sS, sZ]
  refine wpList_run rfl (.int .u64 (1 : Int)) (exec_rem2 (.tmp 10) rfl rfl x0 1 hpar.out rfl _) ?_
  simp only [Act.put, sT, sS, sZ]
  refine wpList_run rfl (.bool true) (exec_gtr22 (.tmp 11) rfl rfl 1 true rfl (by decide) _) ?_
  simp only [Act.put, sT, sS, sZ]
  refine wpList_nil ?_
  have HS11 : Hid (Kt w [] w6) := Lib.hid (HS7.out.sub (fun p hp => by cases hp))
  clear HS7
  go_upto_region 3 with fail
  refine wp_region_list ?_
  refine wpList_run rfl (.slice (some ⟨gb8, 0, none⟩) 32 cap10) (exec_move (.tmp 3) rfl _ rfl _) ?_
  simp only [Act.put, sT, sS, sZ]
  refine wpList_run rfl (.pointer (some ⟨gb8, 31, none⟩)) (exec_index44 (.tmp 13) rfl rfl (gb8) cap10 rfl _) ?_
  simp only [Act.put, sT, sS, sZ]
  refine wpList_run rfl (.int .u8 (b.toNat : Int)) (exec_load_one _ 5 (.tmp 14) rfl ⟨gb8, 31, none⟩ rfl _ (HB9.out.cell31 hm) _ Tryd.underlying5 rfl) ?_
  simp only [Act.put, sT, sS, sZ]
  refine wpList_run rfl (.int .u8 (c.toNat : Int)) (exec_or128 (.tmp 15) rfl rfl b c hor.out rfl _) ?_
  simp only [Act.put, sT, sS, sZ]
  refine wpList_run rfl (.pointer (some ⟨gb8, 31, none⟩)) (exec_index44 (.tmp 13) rfl rfl (gb8) cap10 rfl _) ?_
  simp only [Act.put, sT, sS, sZ]
  refine wpList_run0 rfl (exec_store31 _ (.tmp 17) (.tmp 16) rfl (gb8) rfl c rfl HB9.out hm) ?_
  simp only [Act.put, sT, sS, sZ]
  have HS13 := Lib.hid (HS11.out.cellOther (gb8) 31 (.int .u8 (c.toNat : Int)) (by omega) (fun p hp => by cases hp))
  have HB14 := Lib.hid (HB9.out.set hm c)
  clear HS11 HB9
  generalize w6.setCell ⟨gb8, 31, none⟩ (.int .u8 (c.toNat : Int)) = w12 at *
  refine wpList_nil ?_
  go_upto_region 4 with fail
  refine wp_region_list ?_
  refine wpList_run rfl (.slice (some ⟨gb8, 0, none⟩) 32 cap10) (exec_move (.tmp 3) rfl _ rfl _) ?_
  simp only [Act.put, sT, sS, sZ]
  refine wpList_run rfl (.string ⟨(m ++ [c]).toArray⟩) (exec_convG 44 9 (.tmp 18) rfl _ rfl _ _ _ (HB14.out.str (len31 c hm))) ?_
  simp only [Act.put, sT, sS, sZ]
  refine wpList_run rfl (.string ⟨(m ++ [c]).toArray⟩) (exec_assign (.tmp 19) rfl _ rfl _) ?_
  simp only [Act.put, sT, sS, sZ]
  refine wpList_nil ?_
  go_wp2
  go_ret
  exact ⟨rfl, HS13.out.1⟩
theorem bytes_pt (x y : Nat) (hx : x < 115792089237316195423570985008687907853269984665640564039457584007913129639936) (hy : y < pp) (w : World) :
    Calls Tryd.prog 22 #[.agg (num x ++ num y)] w fun e w' => e = .returned (.string ⟨(bytesN (encP (x, y))).toArray⟩) ∧ Below w.heap.size w w' := by
  rcases Nat.mod_two_eq_zero_or_one x with h | h
  · exact bytes_0 x y hx hy h w
  · exact bytes_1 x y hx hy h w
end Go.Proofs.YtgbliacncahooaaDoor
