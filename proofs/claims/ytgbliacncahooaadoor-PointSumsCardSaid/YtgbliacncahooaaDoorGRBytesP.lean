/- Bytes of the document: a point's number in 32 bytes. No condition but that X has 256 bits, and that Y is below the prime. -/
import Derived.Test.YtgbliacncahooaaDoorGOpA
namespace Go.Proofs.YtgbliacncahooaaDoor
open Go.RowKit Go.Shelf
set_option linter.unusedVariables false
set_option linter.unusedSimpArgs false
theorem cv225_0 (w : World) : (Go.convert 22 5 (.int .u64 0)).run Tryd.prog w = .ok (.int .u8 0) w := by kernel_rfl
theorem cv225_1 (w : World) : (Go.convert 22 5 (.int .u64 1)).run Tryd.prog w = .ok (.int .u8 1) w := by kernel_rfl
theorem exec_shl5_0 {ρ : Operand → Value} {o : Oper} (x : Operand) (ho : o.op = .binOp .shl 5 x (.const (.int .u64 7)) 57) (hc : ρ (.const (.int .u64 7)) = .int .u64 7) (hx : ρ x = .int .u8 0) (w : World) : (execOp ρ o).run Tryd.prog w = .ok (.value (.int .u8 0)) w := by
  unfold execOp
  rw [ho]
  simp only [hx, hc]
  go_simp
  decide
theorem exec_shl5_1 {ρ : Operand → Value} {o : Oper} (x : Operand) (ho : o.op = .binOp .shl 5 x (.const (.int .u64 7)) 57) (hc : ρ (.const (.int .u64 7)) = .int .u64 7) (hx : ρ x = .int .u8 1) (w : World) : (execOp ρ o).run Tryd.prog w = .ok (.value (.int .u8 128)) w := by
  unfold execOp
  rw [ho]
  simp only [hx, hc]
  go_simp
  decide
theorem or_none7 : ∀ y : Fin 256, bits .or .u8 (y.1 : Int) 0 = (y.1 : Int) := by decide +kernel
theorem or_none (b : UInt8) : bits .or .u8 (b.toNat : Int) 0 = (b.toNat : Int) := or_none7 ⟨b.toNat, b.toNat_lt⟩
theorem exec_or5 {ρ : Operand → Value} {o : Oper} (x y : Operand) (ho : o.op = .binOp .or 5 x y 5) (b : UInt8) (k : Int) (c : UInt8) (hb : bits .or .u8 (b.toNat : Int) k = (c.toNat : Int)) (hx : ρ x = .int .u8 (b.toNat : Int)) (hy : ρ y = .int .u8 k) (w : World) :
    (execOp ρ o).run Tryd.prog w = .ok (.value (.int .u8 (c.toNat : Int))) w := by
  unfold execOp
  rw [ho]
  simp only [hx, hy]
  go_simp
set_option maxRecDepth 100000 in
set_option maxHeartbeats 2000000 in
theorem rbytes_0 (x y : Nat) (hx : x < 115792089237316195423570985008687907853269984665640564039457584007913129639936) (hy : y < pp) (h0 : x % 2 = 0) (w : World) :
    Calls Tryd.prog 23 #[.agg (num x ++ num y)] w fun e w' => e = .returned (.string ⟨(bytesN (encP (x, y))).toArray⟩) ∧ Below w.heap.size w w' := by
  obtain ⟨m, b, hmb, hm, hv⟩ := top_byte y (pp_lt hy)
  have H1 := Lib.hid (rbytes_any y (pp_lt hy))
  rw [Nat.mod_eq_of_lt hy, hmb] at H1
  have h128 := top_small hy hv
  have hor := Lib.hid (or_none b)
  obtain ⟨x0, hx0⟩ : ∃ x0, Hid (x0 = dig x 0) := ⟨_, Lib.hid rfl⟩
  have hx64 : x0 < 18446744073709551616 := by rw [hx0.out]; exact dig_lt x 0
  have hpar : Hid (x0 % 2 = 0) := Lib.hid (by rw [hx0.out, dig0_odd]; exact h0)
  rw [enc_even h0, hmb]
  clear hmb hv h128
  obtain ⟨X, hX⟩ : ∃ zz9, Hid (zz9 = num (x)) := ⟨_, Lib.hid rfl⟩
  have IX : IsNum X := by rw [hX.out]; exact isNum _
  obtain ⟨Y, hY⟩ : ∃ zz9, Hid (zz9 = num (y)) := ⟨_, Lib.hid rfl⟩
  have IY : IsNum Y := by rw [hY.out]; exact isNum _
  obtain ⟨Pa, hPa⟩ : ∃ zz9, Hid (zz9 = X ++ Y) := ⟨_, Lib.hid rfl⟩
  have IPa : IsRw 8 Pa := by rw [hPa.out]; exact rw_app (isRw4 IX) (isRw4 IY)
  have SPa_0 : Part Pa 0 X := by rw [hPa.out]; exact part_left 0 (part_all X) Y
  have SPa_4 : Part Pa 4 Y := by rw [hPa.out]; exact part_right (X) Y 4 (by simp [IX.size])
  have CPa_0 : Pa[0]? = some (.int .u64 (x0 : Int)) := by rw [hPa.out, hX.out, hx0.out]; exact part_left 0 (part_all (num x)) _ 0 _ (num_get x 0 (by decide))
  try simp only [← hX.out, ← hY.out] at  H1 ⊢
  try simp only [← hPa.out] at  H1 ⊢
  clear hX hY hPa hx hy h0 hx0
  go_enter Tryd.func23, Tryd.ntmps23
  have HS : Hid (Kt w [] w) := Lib.hid (Kt.nil w)
  go_upto_region 0 with fail
  refine wp_region_list ?_
  refine wpList_run rfl _ (exec_box _ 26 (.tmp 0) rfl _ rfl (Pa) rfl) ?_
  simp only [Act.put, sT, sS, sZ]
  have bg3 := HS.out.1.size
  have HS2 := Lib.hid (HS.out.new Pa 26)
  clear HS
  generalize w.alloc (.cells Pa 26) = w1 at *
  refine wpList_run rfl (.string { data := #[] }) (exec_assign (.const (.string { data := #[] })) rfl _ rfl _) ?_
  simp only [Act.put, sT, sS, sZ]
  refine wpList_nil ?_
  go_upto_region 1 with fail
  refine wp_region_list ?_
  refine wpList_run rfl (.pointer (some ⟨w.heap.size, 4, none⟩)) (exec_field 26 (.tmp 1) 1 rfl _ _ rfl _ (fa26_1 (w.heap.size) _)) ?_
  simp only [Act.put, sT, sS, sZ]
  refine wpList_run rfl (.agg Y) (exec_load_of _ 24 (.tmp 4) rfl ⟨w.heap.size, 4, none⟩ rfl _ (load_part (HS2.out.get (w.heap.size) Pa 26 (by simp)) IY 4 SPa_4)) ?_
  simp only [Act.put, sT, sS, sZ]
  refine wpList_callF rfl 42 #[.tmp 5] #[24] rfl #[.agg Y] en42 (H1.out _) ?_
  rintro v w4 ⟨he, hb⟩
  cases he
  have HS5 := Lib.hid (HS2.out.below hb)
  clear hb HS2
  simp only [Act.put, sT, sS, sZ]
  obtain ⟨cap10, w6, hcv, hbf, hbl, hlt⟩ := conv_buf w4 (m ++ [b]) (len31 b hm)
  refine wpList_run rfl _ (exec_convG 9 44 (.tmp 6) rfl _ rfl _ _ _ hcv) ?_
  simp only [Act.put, sT, sS, sZ]
  have lgb8_0 := HS5.out.lt (w.heap.size) Pa 26 (by simp)
  have bgb8 := HS5.out.1.size
  have HS7 := Lib.hid (HS5.out.below hbl)
  have HB9 := Lib.hid hbf
  clear HS5 hcv hbf hbl
  generalize w4.heap.size = gb8 at *
  refine wpList_run rfl (.slice (some ⟨gb8, 0, none⟩) 32 cap10) (exec_assign (.tmp 7) rfl _ rfl _) ?_
  simp only [Act.put, sT, sS, sZ]
  refine wpList_nil ?_
  go_upto_region 2 with fail
  refine wp_cut (fun a' W' => a' = { tmps := #[.agg Pa, .pointer (some ⟨w.heap.size, 0, none⟩), .string { data := #[] }, .slice (some ⟨gb8, 0, none⟩) 32 cap10, .pointer (some ⟨w.heap.size, 4, none⟩), .agg Y, .string ⟨(m ++ [b]).toArray⟩, .slice (some ⟨gb8, 0, none⟩) 32 cap10, .slice (some ⟨gb8, 0, none⟩) 32 cap10, .pointer (some ⟨gb8, 31, none⟩), .int .u8 (b.toNat : Int), .pointer (some ⟨w.heap.size, 0, none⟩), .pointer (some ⟨w.heap.size, 0, none⟩), .int .u64 (x0 : Int), .int .u64 (0 : Int), .int .u8 (0 : Int), .int .u8 (0 : Int), .int .u8 (b.toNat : Int), .pointer (some ⟨gb8, 31, none⟩), undef, undef], defers := [] } ∧ Kt w [(w.heap.size, Pa, 26)] W' ∧ Buf W' (gb8) (m ++ [b])) ?_ ?_
  · refine wp_region_any (by kernel_rfl) ?_
    change wpAny _ _ _ _ _ _ _ (World.drew _)
    have HDb := HS7.out.drew
    have HEb : Buf w6.drew (gb8) (m ++ [b]) := HB9.out
    clear HS7 HB9
    generalize w6.drew = wdb at *
    refine any_of_F (S := fun W => Kt w [(w.heap.size, Pa, 26)] W ∧ Buf W (gb8) (m ++ [b])) (f := 11) _ _ _ _ ?_
    refine tkL 0 (some 8) (.move (.tmp 3)) (.slice (some ⟨gb8, 0, none⟩) 32 cap10) (fun o ho w2 hw => exec_move (.tmp 3) ho _ rfl w2) ⟨HDb, HEb⟩ ?_
    simp only [Act.put, sT, sS, sZ]
    refine tkL 1 (some 9) (.indexAddr 44 (.tmp 8) (.const (.int .i64 31))) (.pointer (some ⟨gb8, 31, none⟩)) (fun o ho w2 hw => exec_index44 (.tmp 8) ho rfl (gb8) cap10 rfl w2) ⟨HDb, HEb⟩ ?_
    simp only [Act.put, sT, sS, sZ]
    refine tkL 2 (some 10) (.load 5 (.tmp 9)) (.int .u8 (b.toNat : Int)) (fun o ho w2 hw => exec_load_one _ 5 (.tmp 9) ho ⟨gb8, 31, none⟩ rfl _ (hw.2.cell31 hm) _ Tryd.underlying5 rfl) ⟨HDb, HEb⟩ ?_
    simp only [Act.put, sT, sS, sZ]
    refine tkL 3 (some 11) (.fieldAddr 26 (.tmp 1) 0) (.pointer (some ⟨w.heap.size, 0, none⟩)) (fun o ho w2 hw => exec_field 26 (.tmp 1) 0 ho _ _ rfl w2 (fa26_0 (w.heap.size) w2)) ⟨HDb, HEb⟩ ?_
    simp only [Act.put, sT, sS, sZ]
    refine tkL 4 (some 12) (.indexAddr 24 (.tmp 11) (.const (.int .i64 0))) (.pointer (some ⟨w.heap.size, 0, none⟩)) (fun o ho w2 hw => exec_indexAddr24 (.tmp 11) (.const (.int .i64 0)) ho (w.heap.size) 0 rfl rfl (by decide) w2) ⟨HDb, HEb⟩ ?_
    simp only [Act.put, sT, sS, sZ]
    refine tkL 5 (some 13) (.load 22 (.tmp 12)) (.int .u64 (x0 : Int)) (fun o ho w2 hw => exec_load_one _ 22 (.tmp 12) ho ⟨w.heap.size, 0, none⟩ rfl _ (cell_part (hw.1.get (w.heap.size) Pa 26 (by simp)) 0 _ CPa_0) _ Tryd.underlying22 rfl) ⟨HDb, HEb⟩ ?_
    simp only [Act.put, sT, sS, sZ]
    refine tkL 6 (some 14) (.binOp .and 22 (.tmp 13) (.const (.int .u64 1)) 22) (.int .u64 (0 : Int)) (fun o ho w2 hw => exec_and22 (.tmp 13) ho rfl x0 0 hx64 rfl hpar.out.symm w2) ⟨HDb, HEb⟩ ?_
    simp only [Act.put, sT, sS, sZ]
    refine tkL 7 (some 15) (.convert 22 5 (.tmp 14)) (.int .u8 (0 : Int)) (fun o ho w2 hw => exec_convG 22 5 (.tmp 14) ho _ rfl _ _ _ (cv225_0 w2)) ⟨HDb, HEb⟩ ?_
    simp only [Act.put, sT, sS, sZ]
    refine tkL 8 (some 16) (.binOp .shl 5 (.tmp 15) (.const (.int .u64 7)) 57) (.int .u8 (0 : Int)) (fun o ho w2 hw => exec_shl5_0 (.tmp 15) ho rfl rfl w2) ⟨HDb, HEb⟩ ?_
    simp only [Act.put, sT, sS, sZ]
    refine tkL 9 (some 17) (.binOp .or 5 (.tmp 10) (.tmp 16) 5) (.int .u8 (b.toNat : Int)) (fun o ho w2 hw => exec_or5 (.tmp 10) (.tmp 16) ho b _ b hor.out rfl rfl w2) ⟨HDb, HEb⟩ ?_
    simp only [Act.put, sT, sS, sZ]
    refine tkL 10 (some 18) (.indexAddr 44 (.tmp 8) (.const (.int .i64 31))) (.pointer (some ⟨gb8, 31, none⟩)) (fun o ho w2 hw => exec_index44 (.tmp 8) ho rfl (gb8) cap10 rfl w2) ⟨HDb, HEb⟩ ?_
    simp only [Act.put, sT, sS, sZ]
    refine rdy [11] (ReadyF.last (.store 5 (.tmp 18) (.tmp 17)) rfl (fun o ho => exec_store31 wdb (.tmp 18) (.tmp 17) ho (gb8) rfl b rfl HEb hm) ?_ ReadyF.nil)
    refine any_doneF (by kernel_rfl) ?_ _
    exact nrm_intro ⟨rfl, HDb.cellOther (gb8) 31 _ (by omega) (fun p hp => by simp at hp; subst hp; simp only; omega), HEb.set hm b⟩
  rintro a' w12 ⟨rfl, hk, hq⟩
  have HS13 := Lib.hid hk
  have HB14 := Lib.hid hq
  clear hk hq HS7 HB9
  have HS15 : Hid (Kt w [] w12) := Lib.hid (HS13.out.sub (fun p hp => by cases hp))
  clear HS13
  go_upto_region 3 with fail
  refine wp_region_list ?_
  refine wpList_run rfl (.slice (some ⟨gb8, 0, none⟩) 32 cap10) (exec_move (.tmp 3) rfl _ rfl _) ?_
  simp only [Act.put, sT, sS, sZ]
  refine wpList_run rfl (.string ⟨(m ++ [b]).toArray⟩) (exec_convG 44 9 (.tmp 19) rfl _ rfl _ _ _ (HB14.out.str (len31 b hm))) ?_
  simp only [Act.put, sT, sS, sZ]
  refine wpList_run rfl (.string ⟨(m ++ [b]).toArray⟩) (exec_assign (.tmp 20) rfl _ rfl _) ?_
  simp only [Act.put, sT, sS, sZ]
  refine wpList_nil ?_
  go_wp2
  go_ret
  exact ⟨rfl, HS15.out.1⟩
set_option maxRecDepth 100000 in
set_option maxHeartbeats 2000000 in
theorem rbytes_1 (x y : Nat) (hx : x < 115792089237316195423570985008687907853269984665640564039457584007913129639936) (hy : y < pp) (h0 : x % 2 = 1) (w : World) :
    Calls Tryd.prog 23 #[.agg (num x ++ num y)] w fun e w' => e = .returned (.string ⟨(bytesN (encP (x, y))).toArray⟩) ∧ Below w.heap.size w w' := by
  obtain ⟨m, b, hmb, hm, hv⟩ := top_byte y (pp_lt hy)
  have H1 := Lib.hid (rbytes_any y (pp_lt hy))
  rw [Nat.mod_eq_of_lt hy, hmb] at H1
  have h128 := top_small hy hv
  obtain ⟨c, hor1, hc⟩ := or_b b h128
  have hor := Lib.hid hor1
  obtain ⟨x0, hx0⟩ : ∃ x0, Hid (x0 = dig x 0) := ⟨_, Lib.hid rfl⟩
  have hx64 : x0 < 18446744073709551616 := by rw [hx0.out]; exact dig_lt x 0
  have hpar : Hid (x0 % 2 = 1) := Lib.hid (by rw [hx0.out, dig0_odd]; exact h0)
  rw [enc_odd h0 hm hv hc]
  clear hmb hv h128 hor1 hc
  obtain ⟨X, hX⟩ : ∃ zz9, Hid (zz9 = num (x)) := ⟨_, Lib.hid rfl⟩
  have IX : IsNum X := by rw [hX.out]; exact isNum _
  obtain ⟨Y, hY⟩ : ∃ zz9, Hid (zz9 = num (y)) := ⟨_, Lib.hid rfl⟩
  have IY : IsNum Y := by rw [hY.out]; exact isNum _
  obtain ⟨Pa, hPa⟩ : ∃ zz9, Hid (zz9 = X ++ Y) := ⟨_, Lib.hid rfl⟩
  have IPa : IsRw 8 Pa := by rw [hPa.out]; exact rw_app (isRw4 IX) (isRw4 IY)
  have SPa_0 : Part Pa 0 X := by rw [hPa.out]; exact part_left 0 (part_all X) Y
  have SPa_4 : Part Pa 4 Y := by rw [hPa.out]; exact part_right (X) Y 4 (by simp [IX.size])
  have CPa_0 : Pa[0]? = some (.int .u64 (x0 : Int)) := by rw [hPa.out, hX.out, hx0.out]; exact part_left 0 (part_all (num x)) _ 0 _ (num_get x 0 (by decide))
  try simp only [← hX.out, ← hY.out] at  H1 ⊢
  try simp only [← hPa.out] at  H1 ⊢
  clear hX hY hPa hx hy h0 hx0
  go_enter Tryd.func23, Tryd.ntmps23
  have HS : Hid (Kt w [] w) := Lib.hid (Kt.nil w)
  go_upto_region 0 with fail
  refine wp_region_list ?_
  refine wpList_run rfl _ (exec_box _ 26 (.tmp 0) rfl _ rfl (Pa) rfl) ?_
  simp only [Act.put, sT, sS, sZ]
  have bg3 := HS.out.1.size
  have HS2 := Lib.hid (HS.out.new Pa 26)
  clear HS
  generalize w.alloc (.cells Pa 26) = w1 at *
  refine wpList_run rfl (.string { data := #[] }) (exec_assign (.const (.string { data := #[] })) rfl _ rfl _) ?_
  simp only [Act.put, sT, sS, sZ]
  refine wpList_nil ?_
  go_upto_region 1 with fail
  refine wp_region_list ?_
  refine wpList_run rfl (.pointer (some ⟨w.heap.size, 4, none⟩)) (exec_field 26 (.tmp 1) 1 rfl _ _ rfl _ (fa26_1 (w.heap.size) _)) ?_
  simp only [Act.put, sT, sS, sZ]
  refine wpList_run rfl (.agg Y) (exec_load_of _ 24 (.tmp 4) rfl ⟨w.heap.size, 4, none⟩ rfl _ (load_part (HS2.out.get (w.heap.size) Pa 26 (by simp)) IY 4 SPa_4)) ?_
  simp only [Act.put, sT, sS, sZ]
  refine wpList_callF rfl 42 #[.tmp 5] #[24] rfl #[.agg Y] en42 (H1.out _) ?_
  rintro v w4 ⟨he, hb⟩
  cases he
  have HS5 := Lib.hid (HS2.out.below hb)
  clear hb HS2
  simp only [Act.put, sT, sS, sZ]
  obtain ⟨cap10, w6, hcv, hbf, hbl, hlt⟩ := conv_buf w4 (m ++ [b]) (len31 b hm)
  refine wpList_run rfl _ (exec_convG 9 44 (.tmp 6) rfl _ rfl _ _ _ hcv) ?_
  simp only [Act.put, sT, sS, sZ]
  have lgb8_0 := HS5.out.lt (w.heap.size) Pa 26 (by simp)
  have bgb8 := HS5.out.1.size
  have HS7 := Lib.hid (HS5.out.below hbl)
  have HB9 := Lib.hid hbf
  clear HS5 hcv hbf hbl
  generalize w4.heap.size = gb8 at *
  refine wpList_run rfl (.slice (some ⟨gb8, 0, none⟩) 32 cap10) (exec_assign (.tmp 7) rfl _ rfl _) ?_
  simp only [Act.put, sT, sS, sZ]
  refine wpList_nil ?_
  go_upto_region 2 with fail
  refine wp_cut (fun a' W' => a' = { tmps := #[.agg Pa, .pointer (some ⟨w.heap.size, 0, none⟩), .string { data := #[] }, .slice (some ⟨gb8, 0, none⟩) 32 cap10, .pointer (some ⟨w.heap.size, 4, none⟩), .agg Y, .string ⟨(m ++ [b]).toArray⟩, .slice (some ⟨gb8, 0, none⟩) 32 cap10, .slice (some ⟨gb8, 0, none⟩) 32 cap10, .pointer (some ⟨gb8, 31, none⟩), .int .u8 (b.toNat : Int), .pointer (some ⟨w.heap.size, 0, none⟩), .pointer (some ⟨w.heap.size, 0, none⟩), .int .u64 (x0 : Int), .int .u64 (1 : Int), .int .u8 (1 : Int), .int .u8 (128 : Int), .int .u8 (c.toNat : Int), .pointer (some ⟨gb8, 31, none⟩), undef, undef], defers := [] } ∧ Kt w [(w.heap.size, Pa, 26)] W' ∧ Buf W' (gb8) (m ++ [c])) ?_ ?_
  · refine wp_region_any (by kernel_rfl) ?_
    change wpAny _ _ _ _ _ _ _ (World.drew _)
    have HDb := HS7.out.drew
    have HEb : Buf w6.drew (gb8) (m ++ [b]) := HB9.out
    clear HS7 HB9
    generalize w6.drew = wdb at *
    refine any_of_F (S := fun W => Kt w [(w.heap.size, Pa, 26)] W ∧ Buf W (gb8) (m ++ [b])) (f := 11) _ _ _ _ ?_
    refine tkL 0 (some 8) (.move (.tmp 3)) (.slice (some ⟨gb8, 0, none⟩) 32 cap10) (fun o ho w2 hw => exec_move (.tmp 3) ho _ rfl w2) ⟨HDb, HEb⟩ ?_
    simp only [Act.put, sT, sS, sZ]
    refine tkL 1 (some 9) (.indexAddr 44 (.tmp 8) (.const (.int .i64 31))) (.pointer (some ⟨gb8, 31, none⟩)) (fun o ho w2 hw => exec_index44 (.tmp 8) ho rfl (gb8) cap10 rfl w2) ⟨HDb, HEb⟩ ?_
    simp only [Act.put, sT, sS, sZ]
    refine tkL 2 (some 10) (.load 5 (.tmp 9)) (.int .u8 (b.toNat : Int)) (fun o ho w2 hw => exec_load_one _ 5 (.tmp 9) ho ⟨gb8, 31, none⟩ rfl _ (hw.2.cell31 hm) _ Tryd.underlying5 rfl) ⟨HDb, HEb⟩ ?_
    simp only [Act.put, sT, sS, sZ]
    refine tkL 3 (some 11) (.fieldAddr 26 (.tmp 1) 0) (.pointer (some ⟨w.heap.size, 0, none⟩)) (fun o ho w2 hw => exec_field 26 (.tmp 1) 0 ho _ _ rfl w2 (fa26_0 (w.heap.size) w2)) ⟨HDb, HEb⟩ ?_
    simp only [Act.put, sT, sS, sZ]
    refine tkL 4 (some 12) (.indexAddr 24 (.tmp 11) (.const (.int .i64 0))) (.pointer (some ⟨w.heap.size, 0, none⟩)) (fun o ho w2 hw => exec_indexAddr24 (.tmp 11) (.const (.int .i64 0)) ho (w.heap.size) 0 rfl rfl (by decide) w2) ⟨HDb, HEb⟩ ?_
    simp only [Act.put, sT, sS, sZ]
    refine tkL 5 (some 13) (.load 22 (.tmp 12)) (.int .u64 (x0 : Int)) (fun o ho w2 hw => exec_load_one _ 22 (.tmp 12) ho ⟨w.heap.size, 0, none⟩ rfl _ (cell_part (hw.1.get (w.heap.size) Pa 26 (by simp)) 0 _ CPa_0) _ Tryd.underlying22 rfl) ⟨HDb, HEb⟩ ?_
    simp only [Act.put, sT, sS, sZ]
    refine tkL 6 (some 14) (.binOp .and 22 (.tmp 13) (.const (.int .u64 1)) 22) (.int .u64 (1 : Int)) (fun o ho w2 hw => exec_and22 (.tmp 13) ho rfl x0 1 hx64 rfl hpar.out.symm w2) ⟨HDb, HEb⟩ ?_
    simp only [Act.put, sT, sS, sZ]
    refine tkL 7 (some 15) (.convert 22 5 (.tmp 14)) (.int .u8 (1 : Int)) (fun o ho w2 hw => exec_convG 22 5 (.tmp 14) ho _ rfl _ _ _ (cv225_1 w2)) ⟨HDb, HEb⟩ ?_
    simp only [Act.put, sT, sS, sZ]
    refine tkL 8 (some 16) (.binOp .shl 5 (.tmp 15) (.const (.int .u64 7)) 57) (.int .u8 (128 : Int)) (fun o ho w2 hw => exec_shl5_1 (.tmp 15) ho rfl rfl w2) ⟨HDb, HEb⟩ ?_
    simp only [Act.put, sT, sS, sZ]
    refine tkL 9 (some 17) (.binOp .or 5 (.tmp 10) (.tmp 16) 5) (.int .u8 (c.toNat : Int)) (fun o ho w2 hw => exec_or5 (.tmp 10) (.tmp 16) ho b _ c hor.out rfl rfl w2) ⟨HDb, HEb⟩ ?_
    simp only [Act.put, sT, sS, sZ]
    refine tkL 10 (some 18) (.indexAddr 44 (.tmp 8) (.const (.int .i64 31))) (.pointer (some ⟨gb8, 31, none⟩)) (fun o ho w2 hw => exec_index44 (.tmp 8) ho rfl (gb8) cap10 rfl w2) ⟨HDb, HEb⟩ ?_
    simp only [Act.put, sT, sS, sZ]
    refine rdy [11] (ReadyF.last (.store 5 (.tmp 18) (.tmp 17)) rfl (fun o ho => exec_store31 wdb (.tmp 18) (.tmp 17) ho (gb8) rfl c rfl HEb hm) ?_ ReadyF.nil)
    refine any_doneF (by kernel_rfl) ?_ _
    exact nrm_intro ⟨rfl, HDb.cellOther (gb8) 31 _ (by omega) (fun p hp => by simp at hp; subst hp; simp only; omega), HEb.set hm c⟩
  rintro a' w12 ⟨rfl, hk, hq⟩
  have HS13 := Lib.hid hk
  have HB14 := Lib.hid hq
  clear hk hq HS7 HB9
  have HS15 : Hid (Kt w [] w12) := Lib.hid (HS13.out.sub (fun p hp => by cases hp))
  clear HS13
  go_upto_region 3 with fail
  refine wp_region_list ?_
  refine wpList_run rfl (.slice (some ⟨gb8, 0, none⟩) 32 cap10) (exec_move (.tmp 3) rfl _ rfl _) ?_
  simp only [Act.put, sT, sS, sZ]
  refine wpList_run rfl (.string ⟨(m ++ [c]).toArray⟩) (exec_convG 44 9 (.tmp 19) rfl _ rfl _ _ _ (HB14.out.str (len31 c hm))) ?_
  simp only [Act.put, sT, sS, sZ]
  refine wpList_run rfl (.string ⟨(m ++ [c]).toArray⟩) (exec_assign (.tmp 20) rfl _ rfl _) ?_
  simp only [Act.put, sT, sS, sZ]
  refine wpList_nil ?_
  go_wp2
  go_ret
  exact ⟨rfl, HS15.out.1⟩
theorem rbytes_pt (x y : Nat) (hx : x < 115792089237316195423570985008687907853269984665640564039457584007913129639936) (hy : y < pp) (w : World) :
    Calls Tryd.prog 23 #[.agg (num x ++ num y)] w fun e w' => e = .returned (.string ⟨(bytesN (encP (x, y))).toArray⟩) ∧ Below w.heap.size w w' := by
  rcases Nat.mod_two_eq_zero_or_one x with h | h
  · exact rbytes_0 x y hx hy h w
  · exact rbytes_1 x y hx hy h w
end Go.Proofs.YtgbliacncahooaaDoor
