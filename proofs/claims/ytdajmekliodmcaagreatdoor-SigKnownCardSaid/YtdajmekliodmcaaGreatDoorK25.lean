/- Several texts, one behind the other; each says by itself what it proves, and on what conditions. -/
import Derived.Test.YtdajmekliodmcaaGreatDoorK24
namespace Go.Proofs.YtdajmekliodmcaaGreatDoor.P8
open Go.RowKit Go.Shelf
set_option linter.unusedVariables false
set_option linter.unusedSimpArgs false
set_option maxRecDepth 100000 in
set_option maxHeartbeats 2000000 in
theorem bytes_0 (x y : Nat) (hx : x < 115792089237316195423570985008687907853269984665640564039457584007913129639936) (hy : y < pp) (h0 : x % 2 = 0) (w : World) :
    Calls Tryz.prog 31 #[.agg (num x ++ num y)] w fun e w' => e = .returned (.string ⟨(bytesN (encP (x, y))).toArray⟩) ∧ Below w.heap.size w w' := by
  obtain ⟨m, b, hmb, hm, hv⟩ := top_byte y (pp_lt hy)
  have H1 := Lib.hid (bytes_any y (pp_lt hy))
  rw [Nat.mod_eq_of_lt hy, hmb] at H1
  have h128 := top_small hy hv
  obtain ⟨c, hor1, hc⟩ := or_b b h128
  have hor := Lib.hid hor1
  obtain ⟨x0, hx0⟩ : ∃ x0, Hid (x0 = dig x 0) := ⟨_, Lib.hid rfl⟩
  have hpar : Hid (x0 % 2 = 0) := Lib.hid (by rw [hx0.out, dig0_odd]; exact h0)
  rw [enc_even h0, hmb]
  clear hmb hv h128 hor1 hc
  obtain ⟨X, hX⟩ : ∃ zz9, Hid (zz9 = num (x)) := ⟨_, Lib.hid rfl⟩
  have IX : IsNum X := by rw [hX.out]; exact isNum _
  obtain ⟨Y, hY⟩ : ∃ zz9, Hid (zz9 = num (y)) := ⟨_, Lib.hid rfl⟩
  have IY : IsNum Y := by rw [hY.out]; exact isNum _
  obtain ⟨Pa, hPa⟩ : ∃ zz9, Hid (zz9 = X ++ Y) := ⟨_, Lib.hid rfl⟩
  have IPa : IsRw 8 Pa := by rw [hPa.out]; exact rw_app (isRw4 IX) (isRw4 IY)
  have SPa_0 : Part Pa 0 X := by rw [hPa.out]; exact part_left 0 (part_all X) Y
  have SPa_4 : Part Pa 4 Y := by rw [hPa.out]; exact part_right (X) Y 4 (by simp [IX.size])
  have CPa_0 : Pa[0]? = some (.int .u64 (x0 : Int)) := by rw [hPa.out, hX.out, hx0.out]; exact part_left 0 (part_all (num x)) _ 0 _ (num_get x 0 (by decide))
  try simp only [← hX.out, ← hY.out] at  H1 ⊢
  try simp only [← hPa.out] at  H1 ⊢
  clear hX hY hPa hx hy h0 hx0
  go_enter Tryz.func31, Tryz.ntmps31
  have HS : Hid (Kt w [] w) := Lib.hid (Kt.nil w)
  go_upto_region 0 with fail
  refine wp_region_list ?_
  refine wpList_run rfl _ (exec_box _ 60 (.tmp 0) rfl _ rfl (Pa) rfl) ?_
  simp only [Act.put, sT, sS, sZ]
  have bg3 := HS.out.1.size
  have HS2 := Lib.hid (HS.out.new Pa 60)
  clear HS
  generalize w.alloc (.cells Pa 60) = w1 at *
  refine wpList_run rfl (.string { data := #[] }) (exec_assign (.const (.string { data := #[] })) rfl _ rfl _) ?_
  simp only [Act.put, sT, sS, sZ]
  refine wpList_nil ?_
  go_upto_region 1 with fail
  refine wp_region_list ?_
  refine wpList_run rfl (.pointer (some ⟨w.heap.size, 4, none⟩)) (exec_field 60 (.tmp 1) 1 rfl _ _ rfl _ (fa26_1 (w.heap.size) _)) ?_
  simp only [Act.put, sT, sS, sZ]
  refine wpList_run rfl (.agg Y) (exec_load_of _ 36 (.tmp 4) rfl ⟨w.heap.size, 4, none⟩ rfl _ (load_part (HS2.out.get (w.heap.size) Pa 60 (by simp)) IY 4 SPa_4)) ?_
  simp only [Act.put, sT, sS, sZ]
  refine wpList_callF rfl 63 #[.tmp 5] #[36] rfl #[.agg Y] en49 (H1.out _) ?_
  rintro v w4 ⟨he, hb⟩
  cases he
  have HS5 := Lib.hid (HS2.out.below hb)
  clear hb HS2
  simp only [Act.put, sT, sS, sZ]
  obtain ⟨cap10, w6, hcv, hbf, hbl, hlt⟩ := conv_buf w4 (m ++ [b]) (len31 b hm)
  refine wpList_run rfl _ (exec_convG 9 33 (.tmp 6) rfl _ rfl _ _ _ hcv) ?_
  simp only [Act.put, sT, sS, sZ]
  have lgb8_0 := HS5.out.lt (w.heap.size) Pa 60 (by simp)
  have bgb8 := HS5.out.1.size
  have HS7 := Lib.hid (HS5.out.below hbl)
  have HB9 := Lib.hid hbf
  clear HS5 hcv hbf hbl
  generalize w4.heap.size = gb8 at *
  refine wpList_run rfl (.slice (some ⟨gb8, 0, none⟩) 32 cap10) (exec_assign (.tmp 7) rfl _ rfl _) ?_
  simp only [Act.put, sT, sS, sZ]
  refine wpList_nil ?_
  go_upto_region 2 with fail
  refine wp_region_list ?_
  refine wpList_run rfl (.pointer (some ⟨w.heap.size, 0, none⟩)) (exec_field 60 (.tmp 1) 0 rfl _ _ rfl _ (fa26_0 (w.heap.size) _)) ?_
  simp only [Act.put, sT, sS, sZ]
  refine wpList_run rfl (.pointer (some ⟨w.heap.size, 0, none⟩)) (exec_indexAddr24 (.tmp 8) (.const (.int .i64 0)) rfl (w.heap.size) 0 rfl rfl (by decide) _) ?_
  simp only [Act.put, sT, sS, sZ]
  refine wpList_run rfl (.int .u64 (x0 : Int)) (exec_load_one _ 34 (.tmp 9) rfl ⟨w.heap.size, 0, none⟩ rfl _ (cell_part (HS7.out.get (w.heap.size) Pa 60 (by simp)) 0 _ CPa_0) _ Tryz.underlying34 rfl) ?_
  simp only [Act.put, sT, sS, sZ]
  refine wpList_run rfl (.int .u64 (0 : Int)) (exec_rem2 (.tmp 10) rfl rfl x0 0 hpar.out rfl _) ?_
  simp only [Act.put, sT, sS, sZ]
  refine wpList_run rfl (.bool false) (exec_gtr22 (.tmp 11) rfl rfl 0 false rfl (by decide) _) ?_
  simp only [Act.put, sT, sS, sZ]
  refine wpList_nil ?_
  have HS11 : Hid (Kt w [] w6) := Lib.hid (HS7.out.sub (fun p hp => by cases hp))
  clear HS7
  go_upto_region 4 with fail
  refine wp_region_list ?_
  refine wpList_run rfl (.slice (some ⟨gb8, 0, none⟩) 32 cap10) (exec_move (.tmp 3) rfl _ rfl _) ?_
  simp only [Act.put, sT, sS, sZ]
  refine wpList_run rfl (.string ⟨(m ++ [b]).toArray⟩) (exec_convG 33 9 (.tmp 18) rfl _ rfl _ _ _ (HB9.out.str (len31 b hm))) ?_
  simp only [Act.put, sT, sS, sZ]
  refine wpList_run rfl (.string ⟨(m ++ [b]).toArray⟩) (exec_assign (.tmp 19) rfl _ rfl _) ?_
  simp only [Act.put, sT, sS, sZ]
  refine wpList_nil ?_
  go_wp2
  go_ret
  exact ⟨rfl, HS11.out.1⟩
set_option maxRecDepth 100000 in
set_option maxHeartbeats 2000000 in
theorem bytes_1 (x y : Nat) (hx : x < 115792089237316195423570985008687907853269984665640564039457584007913129639936) (hy : y < pp) (h0 : x % 2 = 1) (w : World) :
    Calls Tryz.prog 31 #[.agg (num x ++ num y)] w fun e w' => e = .returned (.string ⟨(bytesN (encP (x, y))).toArray⟩) ∧ Below w.heap.size w w' := by
  obtain ⟨m, b, hmb, hm, hv⟩ := top_byte y (pp_lt hy)
  have H1 := Lib.hid (bytes_any y (pp_lt hy))
  rw [Nat.mod_eq_of_lt hy, hmb] at H1
  have h128 := top_small hy hv
  obtain ⟨c, hor1, hc⟩ := or_b b h128
  have hor := Lib.hid hor1
  obtain ⟨x0, hx0⟩ : ∃ x0, Hid (x0 = dig x 0) := ⟨_, Lib.hid rfl⟩
  have hpar : Hid (x0 % 2 = 1) := Lib.hid (by rw [hx0.out, dig0_odd]; exact h0)
  rw [enc_odd h0 hm hv hc]
  clear hmb hv h128 hor1 hc
  obtain ⟨X, hX⟩ : ∃ zz9, Hid (zz9 = num (x)) := ⟨_, Lib.hid rfl⟩
  have IX : IsNum X := by rw [hX.out]; exact isNum _
  obtain ⟨Y, hY⟩ : ∃ zz9, Hid (zz9 = num (y)) := ⟨_, Lib.hid rfl⟩
  have IY : IsNum Y := by rw [hY.out]; exact isNum _
  obtain ⟨Pa, hPa⟩ : ∃ zz9, Hid (zz9 = X ++ Y) := ⟨_, Lib.hid rfl⟩
  have IPa : IsRw 8 Pa := by rw [hPa.out]; exact rw_app (isRw4 IX) (isRw4 IY)
  have SPa_0 : Part Pa 0 X := by rw [hPa.out]; exact part_left 0 (part_all X) Y
  have SPa_4 : Part Pa 4 Y := by rw [hPa.out]; exact part_right (X) Y 4 (by simp [IX.size])
  have CPa_0 : Pa[0]? = some (.int .u64 (x0 : Int)) := by rw [hPa.out, hX.out, hx0.out]; exact part_left 0 (part_all (num x)) _ 0 _ (num_get x 0 (by decide))
  try simp only [← hX.out, ← hY.out] at  H1 ⊢
  try simp only [← hPa.out] at  H1 ⊢
  clear hX hY hPa hx hy h0 hx0
  go_enter Tryz.func31, Tryz.ntmps31
  have HS : Hid (Kt w [] w) := Lib.hid (Kt.nil w)
  go_upto_region 0 with fail
  refine wp_region_list ?_
  refine wpList_run rfl _ (exec_box _ 60 (.tmp 0) rfl _ rfl (Pa) rfl) ?_
  simp only [Act.put, sT, sS, sZ]
  have bg3 := HS.out.1.size
  have HS2 := Lib.hid (HS.out.new Pa 60)
  clear HS
  generalize w.alloc (.cells Pa 60) = w1 at *
  refine wpList_run rfl (.string { data := #[] }) (exec_assign (.const (.string { data := #[] })) rfl _ rfl _) ?_
  simp only [Act.put, sT, sS, sZ]
  refine wpList_nil ?_
  go_upto_region 1 with fail
  refine wp_region_list ?_
  refine wpList_run rfl (.pointer (some ⟨w.heap.size, 4, none⟩)) (exec_field 60 (.tmp 1) 1 rfl _ _ rfl _ (fa26_1 (w.heap.size) _)) ?_
  simp only [Act.put, sT, sS, sZ]
  refine wpList_run rfl (.agg Y) (exec_load_of _ 36 (.tmp 4) rfl ⟨w.heap.size, 4, none⟩ rfl _ (load_part (HS2.out.get (w.heap.size) Pa 60 (by simp)) IY 4 SPa_4)) ?_
  simp only [Act.put, sT, sS, sZ]
  refine wpList_callF rfl 63 #[.tmp 5] #[36] rfl #[.agg Y] en49 (H1.out _) ?_
  rintro v w4 ⟨he, hb⟩
  cases he
  have HS5 := Lib.hid (HS2.out.below hb)
  clear hb HS2
  simp only [Act.put, sT, sS, sZ]
  obtain ⟨cap10, w6, hcv, hbf, hbl, hlt⟩ := conv_buf w4 (m ++ [b]) (len31 b hm)
  refine wpList_run rfl _ (exec_convG 9 33 (.tmp 6) rfl _ rfl _ _ _ hcv) ?_
  simp only [Act.put, sT, sS, sZ]
  have lgb8_0 := HS5.out.lt (w.heap.size) Pa 60 (by simp)
  have bgb8 := HS5.out.1.size
  have HS7 := Lib.hid (HS5.out.below hbl)
  have HB9 := Lib.hid hbf
  clear HS5 hcv hbf hbl
  generalize w4.heap.size = gb8 at *
  refine wpList_run rfl (.slice (some ⟨gb8, 0, none⟩) 32 cap10) (exec_assign (.tmp 7) rfl _ rfl _) ?_
  simp only [Act.put, sT, sS, sZ]
  refine wpList_nil ?_
  go_upto_region 2 with fail
  refine wp_region_list ?_
  refine wpList_run rfl (.pointer (some ⟨w.heap.size, 0, none⟩)) (exec_field 60 (.tmp 1) 0 rfl _ _ rfl _ (fa26_0 (w.heap.size) _)) ?_
  simp only [Act.put, sT, sS, sZ]
  refine wpList_run rfl (.pointer (some ⟨w.heap.size, 0, none⟩)) (exec_indexAddr24 (.tmp 8) (.const (.int .i64 0)) rfl (w.heap.size) 0 rfl rfl (by decide) _) ?_
  simp only [Act.put, sT, sS, sZ]
  refine wpList_run rfl (.int .u64 (x0 : Int)) (exec_load_one _ 34 (.tmp 9) rfl ⟨w.heap.size, 0, none⟩ rfl _ (cell_part (HS7.out.get (w.heap.size) Pa 60 (by simp)) 0 _ CPa_0) _ Tryz.underlying34 rfl) ?_
  simp only [Act.put, sT, sS, sZ]
  refine wpList_run rfl (.int .u64 (1 : Int)) (exec_rem2 (.tmp 10) rfl rfl x0 1 hpar.out rfl _) ?_
  simp only [Act.put, sT, sS, sZ]
  refine wpList_run rfl (.bool true) (exec_gtr22 (.tmp 11) rfl rfl 1 true rfl (by decide) _) ?_
  simp only [Act.put, sT, sS, sZ]
  refine wpList_nil ?_
  have HS11 : Hid (Kt w [] w6) := Lib.hid (HS7.out.sub (fun p hp => by cases hp))
  clear HS7
  go_upto_region 3 with fail
  refine wp_region_list ?_
  refine wpList_run rfl (.slice (some ⟨gb8, 0, none⟩) 32 cap10) (exec_move (.tmp 3) rfl _ rfl _) ?_
  simp only [Act.put, sT, sS, sZ]
  refine wpList_run rfl (.pointer (some ⟨gb8, 31, none⟩)) (exec_index44 (.tmp 13) rfl rfl (gb8) cap10 rfl _) ?_
  simp only [Act.put, sT, sS, sZ]
  refine wpList_run rfl (.int .u8 (b.toNat : Int)) (exec_load_one _ 5 (.tmp 14) rfl ⟨gb8, 31, none⟩ rfl _ (HB9.out.cell31 hm) _ Tryz.underlying5 rfl) ?_
  simp only [Act.put, sT, sS, sZ]
  refine wpList_run rfl (.int .u8 (c.toNat : Int)) (exec_or128 (.tmp 15) rfl rfl b c hor.out rfl _) ?_
  simp only [Act.put, sT, sS, sZ]
  refine wpList_run rfl (.pointer (some ⟨gb8, 31, none⟩)) (exec_index44 (.tmp 13) rfl rfl (gb8) cap10 rfl _) ?_
  simp only [Act.put, sT, sS, sZ]
  refine wpList_run0 rfl (exec_store31 _ (.tmp 17) (.tmp 16) rfl (gb8) rfl c rfl HB9.out hm) ?_
  simp only [Act.put, sT, sS, sZ]
  have HS13 := Lib.hid (HS11.out.cellOther (gb8) 31 (.int .u8 (c.toNat : Int)) (by omega) (fun p hp => by cases hp))
  have HB14 := Lib.hid (HB9.out.set hm c)
  clear HS11 HB9
  generalize w6.setCell ⟨gb8, 31, none⟩ (.int .u8 (c.toNat : Int)) = w12 at *
  refine wpList_nil ?_
  go_upto_region 4 with fail
  refine wp_region_list ?_
  refine wpList_run rfl (.slice (some ⟨gb8, 0, none⟩) 32 cap10) (exec_move (.tmp 3) rfl _ rfl _) ?_
  simp only [Act.put, sT, sS, sZ]
  refine wpList_run rfl (.string ⟨(m ++ [c]).toArray⟩) (exec_convG 33 9 (.tmp 18) rfl _ rfl _ _ _ (HB14.out.str (len31 c hm))) ?_
  simp only [Act.put, sT, sS, sZ]
  refine wpList_run rfl (.string ⟨(m ++ [c]).toArray⟩) (exec_assign (.tmp 19) rfl _ rfl _) ?_
  simp only [Act.put, sT, sS, sZ]
  refine wpList_nil ?_
  go_wp2
  go_ret
  exact ⟨rfl, HS13.out.1⟩
theorem bytes_pt (x y : Nat) (hx : x < 115792089237316195423570985008687907853269984665640564039457584007913129639936) (hy : y < pp) (w : World) :
    Calls Tryz.prog 31 #[.agg (num x ++ num y)] w fun e w' => e = .returned (.string ⟨(bytesN (encP (x, y))).toArray⟩) ∧ Below w.heap.size w w' := by
  rcases Nat.mod_two_eq_zero_or_one x with h | h
  · exact bytes_0 x y hx hy h w
  · exact bytes_1 x y hx hy h w
end Go.Proofs.YtdajmekliodmcaaGreatDoor.P8
namespace Go.Proofs.YtdajmekliodmcaaGreatDoor.S7
open Go.Proofs.YtdajmekliodmcaaGreatDoor.P8
open Go.RowKit Go.Shelf
set_option linter.unusedVariables false
set_option linter.unusedSimpArgs false
set_option maxRecDepth 100000 in
set_option maxHeartbeats 1000000 in
theorem muladd_any (a b c : Nat) (ha : a < 115792089237316195423570985008687907853269984665640564039457584007913129639936) (hb : b < 115792089237316195423570985008687907853269984665640564039457584007913129639936) (hc : c < 115792089237316195423570985008687907853269984665640564039457584007913129639936) (w : World) (hG0 : Glob w) :
    Calls Tryz.prog 39 #[.agg (num a), .agg (num b), .agg (num c)] w fun e w' => e = .returned (.agg (num (muladdL a b c))) ∧ Below w.heap.size w w' := by
  have lb : b % LL < LL := Nat.mod_lt _ LL_pos
  have lc : c % LL < LL := Nat.mod_lt _ LL_pos
  have H1 := Lib.hid (raw_any a)
  have H2 : Hid (∀ w, Glob w → _) := Lib.hid (norm_any b hb)
  have H3 : Hid (∀ w, Glob w → _) := Lib.hid (times_any ⟨(bytesN a).toArray⟩ (b % LL) (by show (bytesN a).length ≤ 64; rw [bytesN_length]; decide) lb)
  have H4 : Hid (∀ w, Glob w → _) := Lib.hid (norm_any c hc)
  have H5 : Hid (∀ w, Glob w → _) := Lib.hid (sum_any (leVal (bytesN a) * (b % LL) % LL) (c % LL) (Nat.mod_lt _ LL_pos) lc)
  rw [show (⟨(bytesN a).toArray⟩ : ByteArray).data.toList = bytesN a from List.toList_toArray] at H3
  rw [leVal_bytesN a ha] at H3 H5
  rw [show (a * (b % LL) % LL + c % LL) % LL = muladdL a b c by unfold muladdL; rw [← Nat.add_mod, Nat.add_mod, Nat.mul_mod_mod, ← Nat.add_mod]] at H5
  obtain ⟨A, hA⟩ : ∃ A, Hid (A = num a) := ⟨_, Lib.hid rfl⟩
  have IA : IsNum A := by rw [hA.out]; exact isNum _
  obtain ⟨B, hB⟩ : ∃ B, Hid (B = num b) := ⟨_, Lib.hid rfl⟩
  have IB : IsNum B := by rw [hB.out]; exact isNum _
  obtain ⟨C, hC⟩ : ∃ C, Hid (C = num c) := ⟨_, Lib.hid rfl⟩
  have IC : IsNum C := by rw [hC.out]; exact isNum _
  obtain ⟨NB, hNB⟩ : ∃ NB, Hid (NB = num (b % LL)) := ⟨_, Lib.hid rfl⟩
  have INB : IsNum NB := by rw [hNB.out]; exact isNum _
  obtain ⟨NC, hNC⟩ : ∃ NC, Hid (NC = num (c % LL)) := ⟨_, Lib.hid rfl⟩
  have INC : IsNum NC := by rw [hNC.out]; exact isNum _
  obtain ⟨M, hM⟩ : ∃ M, Hid (M = num (a * (b % LL) % LL)) := ⟨_, Lib.hid rfl⟩
  have IM : IsNum M := by rw [hM.out]; exact isNum _
  obtain ⟨R, hR⟩ : ∃ R, Hid (R = num (muladdL a b c)) := ⟨_, Lib.hid rfl⟩
  have IR : IsNum R := by rw [hR.out]; exact isNum _
  obtain ⟨SA, hSA⟩ : ∃ SA : ByteArray, Hid (SA = ⟨(bytesN a).toArray⟩) := ⟨_, Lib.hid rfl⟩
  rw [← hA.out, ← hSA.out] at H1
  rw [← hB.out, ← hNB.out] at H2
  rw [← hSA.out, ← hNB.out, ← hM.out] at H3
  rw [← hC.out, ← hNC.out] at H4
  rw [← hM.out, ← hNC.out, ← hR.out] at H5
  rw [← hA.out, ← hB.out, ← hC.out, ← hR.out]
  have HZ := zero_run
  obtain ⟨Z, hZ⟩ : ∃ Z, Hid (Z = num 0) := ⟨_, Lib.hid rfl⟩
  have IZ : IsNum Z := by rw [hZ.out]; exact isNum _
  have IZ2 := IZ.size
  have HZ2 : ∀ w, (zeroValue 36).run Tryz.prog w = .ok (.agg Z) w := by rw [hZ.out]; exact HZ
  clear HZ
  have hz4 : ∀ W : World, Kn W [(W.heap.size, A), (W.heap.size + 1, B), (W.heap.size + 1 + 1, C), (W.heap.size + 1 + 1 + 1, Z)] ((((W.alloc (.cells A 36)).alloc (.cells B 36)).alloc (.cells C 36)).alloc (.cells Z 36)) := by
    intro W
    have h := ((((Kn.nil W).new A).new B).new C).new Z
    simp only [World.size_alloc] at h
    exact h.sub (fun p hp => by simp at hp ⊢; rcases hp with h | h | h | h <;> simp [h])
  have HS := Lib.hid (hz4 w)
  have HG := Lib.hid hG0
  clear hG0 hz4 lb lc ha hb hc hA hB hC hNB hNC hM hR hSA hZ
  go_enter Tryz.func39, Tryz.ntmps39
  go_upto_region 1 with ((refine wpList_run rfl _ (exec_alloc_agg _ 36 rfl _ (HZ2 _)) ?_); try simp only [World.size_alloc])
  try simp only [Act.put, sT, sS, sZ]
  generalize (((w.alloc (.cells A 36)).alloc (.cells B 36)).alloc (.cells C 36)).alloc (.cells Z 36) = W0 at *
  refine wp_region_any (by kernel_rfl) ?_
  change wpAny _ _ _ _ _ _ _ (World.drew _)
  have HSD := HS.out.drew
  clear HS
  generalize W0.drew = Wd at *
  refine any_of_F (S := Kn w [(w.heap.size, A), (w.heap.size + 1, B), (w.heap.size + 1 + 1, C), (w.heap.size + 1 + 1 + 1, Z)]) (f := 8) _ _ _ _ ?_
  refine AnyF.take 0 (some 7) (.load 36 (.tmp 3)) (.agg A) rfl (by kernel_rfl) (by kernel_rfl) (by kernel_rfl) (fun _ _ _ h => h) rfl (by kernel_rfl) (fun o ho w2 hw => exec_load_of _ 36 (.tmp 3) ho ⟨w.heap.size, 0, none⟩ rfl _ (hw.load (w.heap.size) A (by simp) IA)) HSD ?_
  simp only [Act.put, sT, sS, sZ]
  refine AnyF.take 2 (some 9) (.load 36 (.tmp 4)) (.agg B) rfl (by kernel_rfl) (by kernel_rfl) (by kernel_rfl) (fun _ _ _ h => h) rfl (by kernel_rfl) (fun o ho w2 hw => exec_load_of _ 36 (.tmp 4) ho ⟨w.heap.size + 1, 0, none⟩ rfl _ (hw.load (w.heap.size + 1) B (by simp) IB)) HSD ?_
  simp only [Act.put, sT, sS, sZ]
  refine AnyF.take 5 (some 12) (.load 36 (.tmp 5)) (.agg C) rfl (by kernel_rfl) (by kernel_rfl) (by kernel_rfl) (fun _ _ _ h => h) rfl (by kernel_rfl) (fun o ho w2 hw => exec_load_of _ 36 (.tmp 5) ho ⟨w.heap.size + 1 + 1, 0, none⟩ rfl _ (hw.load (w.heap.size + 1 + 1) C (by simp) IC)) HSD ?_
  simp only [Act.put, sT, sS, sZ]
  refine AnyF.ready (rs := [1]) (by kernel_rfl) (by simp) (ReadyF.call (some 8) 73 #[.tmp 7] #[36] rfl #[.agg A] (by simp [Act.eval]) enters20 _ (H1.out _) ?_ (fun c w' h => by cases h.1) (fun w' h => by cases h.1) ReadyF.nil)
  rintro v wq1 ⟨he, hb⟩
  cases he
  have Hq2 := HSD.below hb
  clear hb
  refine ⟨Hq2, ?_⟩
  simp only [Act.put, sT, sS, sZ]
  refine AnyF.ready (rs := [3]) (by kernel_rfl) (by simp) (ReadyF.call (some 10) 74 #[.tmp 9] #[36] rfl #[.agg B] (by simp [Act.eval]) enters25 _ (H2.out _ (HG.out.kn Hq2)) ?_ (fun c w' h => by cases h.1) (fun w' h => by cases h.1) ReadyF.nil)
  rintro v wq3 ⟨he, hb⟩
  cases he
  have Hq4 := Hq2.below hb
  clear hb
  refine ⟨Hq4, ?_⟩
  simp only [Act.put, sT, sS, sZ]
  refine AnyF.ready (rs := [4]) (by kernel_rfl) (by simp) (ReadyF.call (some 11) 76 #[.tmp 8, .tmp 10] #[9, 36] rfl #[.string SA, .agg NB] (by simp [Act.eval]) enters22 _ (H3.out _ (HG.out.kn Hq4)) ?_ (fun c w' h => by cases h.1) (fun w' h => by cases h.1) ReadyF.nil)
  rintro v wq5 ⟨he, hb⟩
  cases he
  have Hq6 := Hq4.below hb
  clear hb
  refine ⟨Hq6, ?_⟩
  simp only [Act.put, sT, sS, sZ]
  refine AnyF.ready (rs := [6]) (by kernel_rfl) (by simp) (ReadyF.call (some 13) 74 #[.tmp 12] #[36] rfl #[.agg C] (by simp [Act.eval]) enters25 _ (H4.out _ (HG.out.kn Hq6)) ?_ (fun c w' h => by cases h.1) (fun w' h => by cases h.1) ReadyF.nil)
  rintro v wq7 ⟨he, hb⟩
  cases he
  have Hq8 := Hq6.below hb
  clear hb
  refine ⟨Hq8, ?_⟩
  simp only [Act.put, sT, sS, sZ]
  refine AnyF.ready (rs := [7]) (by kernel_rfl) (by simp) (ReadyF.call (some 14) 75 #[.tmp 11, .tmp 13] #[36, 36] rfl #[.agg M, .agg NC] (by simp [Act.eval]) enters24 _ (H5.out _ (HG.out.kn Hq8)) ?_ (fun c w' h => by cases h.1) (fun w' h => by cases h.1) ReadyF.nil)
  rintro v wq9 ⟨he, hb⟩
  cases he
  have Hq10 := Hq8.below hb
  clear hb
  refine ⟨Hq10, ?_⟩
  simp only [Act.put, sT, sS, sZ]
  refine AnyF.ready (rs := [8]) (by kernel_rfl) (by simp) (ReadyF.last (.store 36 (.tmp 6) (.tmp 14)) rfl (fun o ho => exec_store_kn wq9 Hq10 (.tmp 6) (.tmp 14) ho (w.heap.size + 1 + 1 + 1) rfl R IR rfl Z IZ (by simp)) ?_ ReadyF.nil)
  refine any_doneF (by kernel_rfl) ?_ _
  have HSZ : Kn w [(w.heap.size + 1 + 1 + 1, R)] (wq9.setRow (w.heap.size + 1 + 1 + 1) R) := Hq10.set (w.heap.size + 1 + 1 + 1) R Z (Hq10.get (w.heap.size + 1 + 1 + 1) Z (by simp)) (by omega) (fun p hp => by simp at hp; subst hp; simp)
  generalize wq9.setRow (w.heap.size + 1 + 1 + 1) R = W9 at *
  go_wp2
  exact bodyPost_ret (results_cell rfl _ _ _ ⟨w.heap.size + 1 + 1 + 1, 0, none⟩ rfl _ (HSZ.load (w.heap.size + 1 + 1 + 1) R (by simp) IR)) rfl ⟨rfl, HSZ.1⟩
end Go.Proofs.YtdajmekliodmcaaGreatDoor.S7
namespace Go.Proofs.YtdajmekliodmcaaGreatDoor.P8
open Go.RowKit Go.Shelf
set_option linter.unusedVariables false
set_option linter.unusedSimpArgs false
theorem results_tmps {fn : Func} {a b : Tmp} (h : fn.results = #[.tmp a, .tmp b]) (tmps : Array Value) (P : Program) (w : World) : (results fn tmps).run P w = .ok (.tuple #[tmps.getD a undef, tmps.getD b undef]) w := by
  unfold results
  rw [h]
  simp [Array.mapM_eq_mapM_toList]
theorem valN_lt {f : Nat → Nat} (h : ∀ j, f j < 18446744073709551616) : valN f < 115792089237316195423570985008687907853269984665640564039457584007913129639936 := by
  have h0 := h 0
  have h1 := h 1
  have h2 := h 2
  have h3 := h 3
  unfold valN
  omega
theorem secN_lt (l : List UInt8) : secN l < 115792089237316195423570985008687907853269984665640564039457584007913129639936 := valN_lt (secW_lt l)
def pubL (s : List UInt8) : List UInt8 := bytesN (encP (mulN (secN (W4.sha s)) baseN))
def sigR (s m : List UInt8) : Nat := numT ((W4.sha s).drop 32 ++ m)
def headL (s m : List UInt8) : List UInt8 := bytesN (encP (mulN (sigR s m) baseN))
def sigK (s m : List UInt8) : Nat := numT (headL s m ++ (pubL s ++ m))
def tailL (s m : List UInt8) : List UInt8 := bytesN (S7.muladdL (sigK s m) (secN (W4.sha s)) (sigR s m) % S7.LL)
theorem pubL_len (s : List UInt8) : (pubL s).length = 32 := bytesN_length _
theorem headL_len (s m : List UInt8) : (headL s m).length = 32 := bytesN_length _
theorem tailL_len (s m : List UInt8) : (tailL s m).length = 32 := bytesN_length _
theorem join2 (a b : List UInt8) : Lib.join [a, b] [] = a ++ b := by simp [Lib.join, List.intercalate, List.intersperse]
theorem join3 (a b c : List UInt8) : Lib.join [a, b, c] [] = a ++ (b ++ c) := by simp [Lib.join, List.intercalate, List.intersperse]
theorem key_bytes (k : Nat) (w : World) : Calls Tryz.prog 31 #[.agg (ptV (mulN k baseN))] w fun e w' => e = .returned (.string ⟨(bytesN (encP (mulN k baseN))).toArray⟩) ∧ Below w.heap.size w w' := by
  have ho := mulN_on baseN_on k
  exact bytes_pt (mulN k baseN).1 (mulN k baseN).2 (pp_lt ho.1) ho.2.1 w
theorem run_build2 (a b : ByteArray) (w : World) : (Instr.buildSlice 45 2 #[(0, .string a), (1, .string b)]).run Tryz.prog w = .ok (.slice (some ⟨w.heap.size, 0, none⟩) 2 2) (w.alloc (.cells (strRow [a, b]) 9)) := by kernel_rfl
theorem run_build3 (a b c : ByteArray) (w : World) : (Instr.buildSlice 45 3 #[(0, .string a), (1, .string b), (2, .string c)]).run Tryz.prog w = .ok (.slice (some ⟨w.heap.size, 0, none⟩) 3 3) (w.alloc (.cells (strRow [a, b, c]) 9)) := by kernel_rfl
theorem exec_build2 {ρ : Operand → Value} {o : Oper} (w : World) (x y : Operand) (ho : o.op = .buildSlice 45 2 #[(0, x), (1, y)]) (a b : ByteArray) (hx : ρ x = .string a) (hy : ρ y = .string b) :
    (execOp ρ o).run Tryz.prog w = .ok (.value (.slice (some ⟨w.heap.size, 0, none⟩) 2 2)) (w.alloc (.cells (strRow [a, b]) 9)) := by
  have h := run_build2 a b w
  unfold execOp
  rw [ho]
  simp [hx, hy, Sem.run_bind, h]
theorem exec_build3 {ρ : Operand → Value} {o : Oper} (w : World) (x y z : Operand) (ho : o.op = .buildSlice 45 3 #[(0, x), (1, y), (2, z)]) (a b c : ByteArray) (hx : ρ x = .string a) (hy : ρ y = .string b) (hz : ρ z = .string c) :
    (execOp ρ o).run Tryz.prog w = .ok (.value (.slice (some ⟨w.heap.size, 0, none⟩) 3 3)) (w.alloc (.cells (strRow [a, b, c]) 9)) := by
  have h := run_build3 a b c w
  unfold execOp
  rw [ho]
  simp [hx, hy, hz, Sem.run_bind, h]
set_option maxRecDepth 100000 in
set_option maxHeartbeats 2000000 in
theorem public_yes (s : ByteArray) (h32 : s.size = 32) (w : World) (hG0 : Glob w) :
    Calls Tryz.prog 10 #[.string s] w fun e w' => e = .returned (.tuple #[.string ⟨(pubL s.data.toList).toArray⟩, .bool true]) ∧ Below w.heap.size w w' := by
  have hne : ((s.size : Int) != 32) = false := by rw [bne_eq_false_iff_eq]; omega
  have H1 : Hid (∀ w, _) := Lib.hid (fun w => secret_any s (by omega) w)
  have H2 : Hid (∀ w, Glob w → _) := Lib.hid (fun w hw => ofBase_any (secN (W4.sha s.data.toList)) (secN_lt _) w hw)
  have H3 : Hid (∀ w, _) := Lib.hid (fun w => key_bytes (secN (W4.sha s.data.toList)) w)
  obtain ⟨A, hA⟩ : ∃ A, Hid (A = num (secN (W4.sha s.data.toList))) := ⟨_, Lib.hid rfl⟩
  have IA : IsNum A := by rw [hA.out]; exact isNum _
  obtain ⟨P, hP⟩ : ∃ P, Hid (P = ptV (mulN (secN (W4.sha s.data.toList)) baseN)) := ⟨_, Lib.hid rfl⟩
  obtain ⟨V, hV⟩ : ∃ V : ByteArray, Hid (V = ⟨(pubL s.data.toList).toArray⟩) := ⟨_, Lib.hid rfl⟩
  obtain ⟨D, hD⟩ : ∃ V : ByteArray, Hid (V = ⟨((W4.sha s.data.toList).drop 32).toArray⟩) := ⟨_, Lib.hid rfl⟩
  have hV2 : Hid (⟨(bytesN (encP (mulN (secN (W4.sha s.data.toList)) baseN))).toArray⟩ = V) := Lib.hid hV.out.symm
  rw [← hA.out, ← hD.out] at H1
  rw [← hA.out, ← hP.out] at H2
  rw [← hP.out, hV2.out] at H3
  rw [← hV.out]
  have HG := Lib.hid hG0
  have HZ := zero_run
  obtain ⟨Z, hZe⟩ : ∃ Z, Hid (Z = num 0) := ⟨_, Lib.hid rfl⟩
  have IZ : IsNum Z := by rw [hZe.out]; exact isNum 0
  have IZ2 := IZ.size
  have HZ2 : ∀ w, (zeroValue 36).run Tryz.prog w = .ok (.agg Z) w := by rw [hZe.out]; exact HZ
  have HS0 : Hid (Kn w [] w) := Lib.hid (Kn.nil w)
  clear HZ hG0 hA hP hV hD hV2
  go_enter Tryz.func10, Tryz.ntmps10
  go_wp2_with fail
  refine (H1.out _).mono ?_
  rintro e w2 ⟨rfl, hb⟩
  have HS1 := HS0.out.below hb
  clear hb HS0 H1
  have HS2 := Lib.hid (HS1.new Z)
  have bg := HS1.1.size
  clear HS1
  generalize hg : w2.heap.size = g at *
  go_upto_region 4 with (first | (refine wpList_run rfl _ (exec_alloc_agg _ 36 rfl _ (HZ2 _)) ?_) | (refine wpList_run0 rfl (exec_store_kn (w0 := w) (l := [(g, Z)]) _ HS2.out (.tmp 4) (.tmp 12) rfl g (by rw [← hg]; rfl) A IA rfl Z IZ (by simp)) ?_))
  try simp only [Act.put, sT, sS, sZ]
  have HS3 : Hid (Kn w [(g, A)] ((w2.alloc (.cells Z 36)).setRow g A)) := Lib.hid (HS2.out.set g A Z (HS2.out.get g Z (by simp)) (by omega) (fun p hp => by simp at hp; subst hp; simp))
  clear HS2
  generalize (w2.alloc (.cells Z 36)).setRow g A = W3 at *
  go_wp2_with (refine wpList_run rfl _ (exec_load_of _ 36 (.tmp 4) rfl ⟨g, 0, none⟩ rfl (.agg A) (HS3.out.load g A (by simp) IA)) ?_)
  refine (H2.out _ (HG.out.kn HS3.out)).mono ?_
  rintro e w4 ⟨rfl, hb⟩
  have HS4 := Lib.hid (HS3.out.below hb)
  clear hb HS3
  go_wp2_with fail
  refine (H3.out _).mono ?_
  rintro e w5 ⟨rfl, hb⟩
  have HS5 := Lib.hid (HS4.out.below hb)
  clear hb HS4
  go_wp2_with fail
  exact ⟨rfl, _, results_tmps rfl _ _ _, rfl, HS5.out.1⟩
set_option maxRecDepth 100000 in
set_option maxHeartbeats 2000000 in
theorem sign_yes (s m : ByteArray) (h32 : s.size = 32) (hm : m.size ≤ 99000) (w : World) (hG0 : Glob w) (hG1 : S7.Glob w) :
    Calls Tryz.prog 12 #[.string s, .string m] w fun e w' => e = .returned (.tuple #[.string (⟨(headL s.data.toList m.data.toList).toArray⟩ ++ ⟨(tailL s.data.toList m.data.toList).toArray⟩), .bool true]) ∧ Below w.heap.size w w' := by
  have hne : ((s.size : Int) != 32) = false := by rw [bne_eq_false_iff_eq]; omega
  have hml : m.data.toList.length ≤ 99000 := hm
  obtain ⟨sl, hsl⟩ : ∃ l, Hid (l = s.data.toList) := ⟨_, Lib.hid rfl⟩
  obtain ⟨ml, hmlE⟩ : ∃ l, Hid (l = m.data.toList) := ⟨_, Lib.hid rfl⟩
  obtain ⟨a, ha⟩ : ∃ a, Hid (a = secN (W4.sha sl)) := ⟨_, Lib.hid rfl⟩
  obtain ⟨r, hr⟩ : ∃ r, Hid (r = sigR sl ml) := ⟨_, Lib.hid rfl⟩
  obtain ⟨k, hk⟩ : ∃ k, Hid (k = sigK sl ml) := ⟨_, Lib.hid rfl⟩
  have la : a < 115792089237316195423570985008687907853269984665640564039457584007913129639936 := by rw [ha.out]; exact secN_lt _
  have lr : r < 115792089237316195423570985008687907853269984665640564039457584007913129639936 := by rw [hr.out]; exact numT_lt _
  have lk : k < 115792089237316195423570985008687907853269984665640564039457584007913129639936 := by rw [hk.out]; exact numT_lt _
  obtain ⟨D, hD⟩ : ∃ V : ByteArray, Hid (V = ⟨((W4.sha sl).drop 32).toArray⟩) := ⟨_, Lib.hid rfl⟩
  obtain ⟨Hd, hHd⟩ : ∃ V : ByteArray, Hid (V = ⟨(headL sl ml).toArray⟩) := ⟨_, Lib.hid rfl⟩
  obtain ⟨Pk, hPk⟩ : ∃ V : ByteArray, Hid (V = ⟨(pubL sl).toArray⟩) := ⟨_, Lib.hid rfl⟩
  obtain ⟨Tl, hTl⟩ : ∃ V : ByteArray, Hid (V = ⟨(tailL sl ml).toArray⟩) := ⟨_, Lib.hid rfl⟩
  have H1 := Lib.hid (fun w => secret_any s (by omega) w)
  rw [← hsl.out, ← ha.out, ← hD.out] at H1
  have HA2 : Hid (∀ w, Glob w → _) := Lib.hid (fun w hw => ofBase_any a la w hw)
  have HR2 : Hid (∀ w, Glob w → _) := Lib.hid (fun w hw => ofBase_any r lr w hw)
  have HA3 := Lib.hid (fun w => key_bytes a w)
  have HR3 := Lib.hid (fun w => key_bytes r w)
  have e1 : (⟨(bytesN (encP (mulN a baseN))).toArray⟩ : ByteArray) = Pk := by rw [hPk.out, ha.out]; rfl
  have e2 : (⟨(bytesN (encP (mulN r baseN))).toArray⟩ : ByteArray) = Hd := by rw [hHd.out, hr.out]; rfl
  rw [e1] at HA3
  rw [e2] at HR3
  have HN1 : Hid (∀ (w : World) (bk : Nat), w.heap[bk]? = some (.cells (strRow [D, m]) 9 (0, 0)) → S7.Glob w → Calls Tryz.prog 37 #[.slice (some ⟨bk, 0, none⟩) 2 2] w fun e w' => e = .returned (.agg (num r)) ∧ Below w.heap.size w w') := by
    refine Lib.hid (fun w bk hrow hw => ?_)
    have h := number_any bk [D, m] 2 9 ((W4.sha sl).drop 32 ++ ml) w hrow rfl (by omega) (by rw [hD.out, hmlE.out]; exact join2 _ _) (by rw [List.length_append, List.length_drop, sha_len, hmlE.out]; omega) hw
    rw [hr.out]
    exact h
  have HN2 : Hid (∀ (w : World) (bk : Nat), w.heap[bk]? = some (.cells (strRow [Hd, Pk, m]) 9 (0, 0)) → S7.Glob w → Calls Tryz.prog 37 #[.slice (some ⟨bk, 0, none⟩) 3 3] w fun e w' => e = .returned (.agg (num k)) ∧ Below w.heap.size w w') := by
    refine Lib.hid (fun w bk hrow hw => ?_)
    have h := number_any bk [Hd, Pk, m] 3 9 (headL sl ml ++ (pubL sl ++ ml)) w hrow rfl (by omega) (by rw [hHd.out, hPk.out, hmlE.out]; exact join3 _ _ _) (by rw [List.length_append, List.length_append, headL_len, pubL_len, hmlE.out]; omega) hw
    rw [hk.out]
    exact h
  obtain ⟨q, hq⟩ : ∃ q, Hid (q = S7.muladdL k a r) := ⟨_, Lib.hid rfl⟩
  have lq : q < 115792089237316195423570985008687907853269984665640564039457584007913129639936 := by rw [hq.out]; exact S7.LL_lt (Nat.mod_lt _ S7.LL_pos)
  have HM : Hid (∀ w, S7.Glob w → Calls Tryz.prog 39 #[.agg (num k), .agg (num a), .agg (num r)] w fun e w' => e = .returned (.agg (num q)) ∧ Below w.heap.size w w') := by
    refine Lib.hid (fun w hw => ?_)
    rw [hq.out]
    exact S7.muladd_any k a r lk la lr w hw
  have HB : Hid (∀ w, S7.Glob w → Calls Tryz.prog 38 #[.agg (num q)] w fun e w' => e = .returned (.string Tl) ∧ Below w.heap.size w w') := by
    refine Lib.hid (fun w hw => ?_)
    have h := S7.bytes_any q lq w hw
    rw [show (⟨(bytesN (q % S7.LL)).toArray⟩ : ByteArray) = Tl by rw [hTl.out, hq.out, hk.out, ha.out, hr.out]; rfl] at h
    exact h
  obtain ⟨A, hA⟩ : ∃ A, Hid (A = num a) := ⟨_, Lib.hid rfl⟩
  have IA : IsNum A := by rw [hA.out]; exact isNum _
  obtain ⟨R, hR⟩ : ∃ A, Hid (A = num r) := ⟨_, Lib.hid rfl⟩
  have IR : IsNum R := by rw [hR.out]; exact isNum _
  obtain ⟨K, hK⟩ : ∃ A, Hid (A = num k) := ⟨_, Lib.hid rfl⟩
  have IK : IsNum K := by rw [hK.out]; exact isNum _
  obtain ⟨Q, hQ⟩ : ∃ A, Hid (A = num q) := ⟨_, Lib.hid rfl⟩
  obtain ⟨PA, hPA⟩ : ∃ A, Hid (A = ptV (mulN a baseN)) := ⟨_, Lib.hid rfl⟩
  obtain ⟨PR, hPR⟩ : ∃ A, Hid (A = ptV (mulN r baseN)) := ⟨_, Lib.hid rfl⟩
  rw [← hA.out] at H1 HA2 HM
  rw [← hPA.out] at HA2 HA3
  rw [← hR.out] at HR2 HN1 HM
  rw [← hPR.out] at HR2 HR3
  rw [← hK.out] at HN2 HM
  rw [← hQ.out] at HM HB
  rw [← hsl.out, ← hmlE.out, ← hHd.out, ← hTl.out]
  have SHd : Hd.size = 32 := by rw [hHd.out]; exact headL_len _ _
  have STl : Tl.size = 32 := by rw [hTl.out]; exact tailL_len _ _
  have HG := Lib.hid hG0
  have HH := Lib.hid hG1
  have HZ := zero_run
  obtain ⟨Z, hZe⟩ : ∃ Z, Hid (Z = num 0) := ⟨_, Lib.hid rfl⟩
  have IZ : IsNum Z := by rw [hZe.out]; exact isNum 0
  have IZ2 := IZ.size
  have HZ2 : ∀ w, (zeroValue 36).run Tryz.prog w = .ok (.agg Z) w := by rw [hZe.out]; exact HZ
  have HS0 : Hid (Kn w [] w) := Lib.hid (Kn.nil w)
  clear HZ hG0 hG1 hA hR hK hQ hPA hPR hq hk hr ha hD hHd hPk hTl la lr lk lq e1 e2
  go_enter Tryz.func12, Tryz.ntmps12
  go_wp2_with fail
  refine (H1.out _).mono ?_
  rintro e w2 ⟨rfl, hb⟩
  have HS1 := HS0.out.below hb
  clear hb HS0 H1
  have HS2 := Lib.hid (HS1.new Z)
  have bg := HS1.1.size
  clear HS1
  generalize hg : w2.heap.size = g at *
  go_upto_region 4 with (first | (refine wpList_run rfl _ (exec_alloc_agg _ 36 rfl _ (HZ2 _)) ?_) | (refine wpList_run0 rfl (exec_store_kn (w0 := w) (l := [(g, Z)]) _ HS2.out (.tmp 6) (.tmp 17) rfl g (by rw [← hg]; rfl) A IA rfl Z IZ (by simp)) ?_))
  try simp only [Act.put, sT, sS, sZ]
  have HS3 : Hid (Kn w [(g, A)] ((w2.alloc (.cells Z 36)).setRow g A)) := Lib.hid (HS2.out.set g A Z (HS2.out.get g Z (by simp)) (by omega) (fun p hp => by simp at hp; subst hp; simp))
  clear HS2
  generalize (w2.alloc (.cells Z 36)).setRow g A = W3 at *
  clear hg
  go_wp2_with (refine wpList_run rfl _ (exec_build2 _ (.tmp 19) (.tmp 20) rfl D m rfl rfl) ?_)
  have HS4 := Lib.hid (HS3.out.alloc (.cells (strRow [D, m]) 9))
  refine (HN1.out _ _ (World.alloc_heap_new W3 _) (HH.out.below HS4.out.1)).mono ?_
  rintro e w4 ⟨rfl, hb⟩
  have HS5 := HS4.out.below hb
  clear hb HS3 HS4
  have HS6 := Lib.hid ((HS5.new Z).sub (m := [(g, A), (w4.heap.size, Z)]) (fun p hp => by simp at hp ⊢; rcases hp with rfl | rfl <;> simp))
  have bg2 := HS5.1.size
  have lg2 := HS5.lt g A (by simp)
  clear HS5
  generalize hg2 : w4.heap.size = g2 at *
  go_upto_region 5 with (first | (refine wpList_run rfl _ (exec_alloc_agg _ 36 rfl _ (HZ2 _)) ?_) | (refine wpList_run0 rfl (exec_store_kn (w0 := w) (l := [(g, A), (g2, Z)]) _ HS6.out (.tmp 8) (.tmp 22) rfl g2 (by rw [← hg2]; rfl) R IR rfl Z IZ (by simp)) ?_))
  try simp only [Act.put, sT, sS, sZ]
  rw [hg2]
  have HS7 : Hid (Kn w [(g, A), (g2, R)] ((w4.alloc (.cells Z 36)).setRow g2 R)) := Lib.hid (HS6.out.set g2 R Z (HS6.out.get g2 Z (by simp)) (by omega) (fun p hp => by simp at hp; rcases hp with rfl | rfl <;> first | exact .inl rfl | exact .inr ⟨by simp, by simp only; omega⟩))
  clear HS6
  generalize (w4.alloc (.cells Z 36)).setRow g2 R = W5 at *
  clear hg2
  go_wp2_with (refine wpList_run rfl _ (exec_load_of _ 36 (.tmp 8) rfl ⟨g2, 0, none⟩ rfl (.agg R) (HS7.out.load g2 R (by simp) IR)) ?_)
  refine (HR2.out _ (HG.out.kn HS7.out)).mono ?_
  rintro e w6 ⟨rfl, hb⟩
  have HS8 := Lib.hid (HS7.out.below hb)
  clear hb HS7
  go_wp2_with fail
  refine (HR3.out _).mono ?_
  rintro e w7 ⟨rfl, hb⟩
  have HS9 := Lib.hid (HS8.out.below hb)
  clear hb HS8
  go_wp2_with (refine wpList_run rfl _ (exec_load_of _ 36 (.tmp 6) rfl ⟨g, 0, none⟩ rfl (.agg A) (HS9.out.load g A (by simp) IA)) ?_)
  refine (HA2.out _ (HG.out.kn HS9.out)).mono ?_
  rintro e w8 ⟨rfl, hb⟩
  have HS10 := Lib.hid (HS9.out.below hb)
  clear hb HS9
  go_wp2_with fail
  refine (HA3.out _).mono ?_
  rintro e w9 ⟨rfl, hb⟩
  have HS11 := Lib.hid (HS10.out.below hb)
  clear hb HS10
  go_wp2_with (refine wpList_run rfl _ (exec_build3 _ (.tmp 26) (.tmp 29) (.tmp 30) rfl Hd Pk m rfl rfl rfl) ?_)
  have HS12 := Lib.hid (HS11.out.alloc (.cells (strRow [Hd, Pk, m]) 9))
  refine (HN2.out _ _ (World.alloc_heap_new w9 _) (HH.out.below HS12.out.1)).mono ?_
  rintro e w10 ⟨rfl, hb⟩
  have HS13 := HS12.out.below hb
  clear hb HS11 HS12
  have HS14 := Lib.hid ((HS13.new Z).sub (m := [(g, A), (g2, R), (w10.heap.size, Z)]) (fun p hp => by simp at hp ⊢; rcases hp with rfl | rfl | rfl <;> simp))
  have bg3 := HS13.1.size
  have lg3 := HS13.lt g A (by simp)
  have lg4 := HS13.lt g2 R (by simp)
  clear HS13
  generalize hg3 : w10.heap.size = g3 at *
  go_upto_region 7 with (first | (refine wpList_run rfl _ (exec_alloc_agg _ 36 rfl _ (HZ2 _)) ?_) | (refine wpList_run0 rfl (exec_store_kn (w0 := w) (l := [(g, A), (g2, R), (g3, Z)]) _ HS14.out (.tmp 10) (.tmp 32) rfl g3 (by rw [← hg3]; rfl) K IK rfl Z IZ (by simp)) ?_))
  try simp only [Act.put, sT, sS, sZ]
  rw [hg3]
  have HS15 : Hid (Kn w [(g, A), (g2, R), (g3, K)] ((w10.alloc (.cells Z 36)).setRow g3 K)) := Lib.hid (HS14.out.set g3 K Z (HS14.out.get g3 Z (by simp)) (by omega) (fun p hp => by simp at hp; rcases hp with rfl | rfl | rfl <;> first | exact .inl rfl | exact .inr ⟨by simp, by simp only; omega⟩))
  clear HS14
  generalize (w10.alloc (.cells Z 36)).setRow g3 K = W11 at *
  clear hg3
  go_wp2_with (first | (refine wpList_run rfl _ (exec_load_of _ 36 (.tmp 10) rfl ⟨g3, 0, none⟩ rfl (.agg K) (HS15.out.load g3 K (by simp) IK)) ?_) | (refine wpList_run rfl _ (exec_load_of _ 36 (.tmp 6) rfl ⟨g, 0, none⟩ rfl (.agg A) (HS15.out.load g A (by simp) IA)) ?_) | (refine wpList_run rfl _ (exec_load_of _ 36 (.tmp 8) rfl ⟨g2, 0, none⟩ rfl (.agg R) (HS15.out.load g2 R (by simp) IR)) ?_))
  refine (HM.out _ (HH.out.below HS15.out.1)).mono ?_
  rintro e w12 ⟨rfl, hb⟩
  have HS16 := Lib.hid (HS15.out.below hb)
  clear hb HS15
  go_wp2_with fail
  refine (HB.out _ (HH.out.below HS16.out.1)).mono ?_
  rintro e w13 ⟨rfl, hb⟩
  have HS17 := Lib.hid (HS16.out.below hb)
  clear hb HS16
  go_wp2_with fail
  exact ⟨rfl, _, results_tmps rfl _ _ _, rfl, HS17.out.1⟩
end Go.Proofs.YtdajmekliodmcaaGreatDoor.P8
