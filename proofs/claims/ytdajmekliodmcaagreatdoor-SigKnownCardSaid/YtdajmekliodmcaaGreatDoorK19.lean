/- over, plain, sum of package point: points as ratios, their sums. No condition but that the numbers have 256 bits, and that the curve's number stands in memory. -/
import Derived.Test.YtdajmekliodmcaaGreatDoorK17
namespace Go.Proofs.YtdajmekliodmcaaGreatDoor.P8
open Go.RowKit Go.Shelf
set_option linter.unusedVariables false
set_option linter.unusedSimpArgs false
set_option maxRecDepth 100000 in
set_option maxHeartbeats 2000000 in
theorem sum_any (x1 y1 z1 t1 x2 y2 z2 t2 : Nat) (hx1 : x1 < 115792089237316195423570985008687907853269984665640564039457584007913129639936) (hy1 : y1 < 115792089237316195423570985008687907853269984665640564039457584007913129639936) (hz1 : z1 < 115792089237316195423570985008687907853269984665640564039457584007913129639936) (ht1 : t1 < 115792089237316195423570985008687907853269984665640564039457584007913129639936) (hx2 : x2 < 115792089237316195423570985008687907853269984665640564039457584007913129639936) (hy2 : y2 < 115792089237316195423570985008687907853269984665640564039457584007913129639936) (hz2 : z2 < 115792089237316195423570985008687907853269984665640564039457584007913129639936) (ht2 : t2 < 115792089237316195423570985008687907853269984665640564039457584007913129639936) (w : World) (hG0 : Glob w) :
    Calls Tryz.prog 91 #[.agg (num x1 ++ num y1 ++ num z1 ++ num t1), .agg (num x2 ++ num y2 ++ num z2 ++ num t2)] w fun e w' => e = .returned (.agg (num (mulF (addF (mulF x1 y2) (mulF y1 x2)) (subF (mulF z1 z2) (mulF dN (mulF t1 t2)))) ++ num (mulF (addF (mulF y1 y2) (mulF x1 x2)) (addF (mulF z1 z2) (mulF dN (mulF t1 t2)))) ++ num (mulF (addF (mulF z1 z2) (mulF dN (mulF t1 t2))) (subF (mulF z1 z2) (mulF dN (mulF t1 t2)))) ++ num (mulF (addF (mulF x1 y2) (mulF y1 x2)) (addF (mulF y1 y2) (mulF x1 x2))))) ∧ Below w.heap.size w w' := by
  have HG := Lib.hid hG0
  have HC3 := Lib.hid (mulf_any (z1) (z2) hz1 hz2)
  have HC7 := Lib.hid (mulf_any (t1) (t2) ht1 ht2)
  have HC9 := Lib.hid (mulf_any (dN) (mulF (t1) (t2)) dN_b4 (pp_lt (mulF_lt _ _)))
  have HC11 := Lib.hid (mulf_any (x1) (y2) hx1 hy2)
  have HC13 := Lib.hid (mulf_any (y1) (x2) hy1 hx2)
  have HC15 := Lib.hid (addf_any (mulF (x1) (y2)) (mulF (y1) (x2)) (pp_lt (mulF_lt _ _)) (pp_lt (mulF_lt _ _)))
  have HC17 := Lib.hid (mulf_any (y1) (y2) hy1 hy2)
  have HC19 := Lib.hid (mulf_any (x1) (x2) hx1 hx2)
  have HC21 := Lib.hid (addf_any (mulF (y1) (y2)) (mulF (x1) (x2)) (pp_lt (mulF_lt _ _)) (pp_lt (mulF_lt _ _)))
  have HC23 := Lib.hid (addf_any (mulF (z1) (z2)) (mulF (dN) (mulF (t1) (t2))) (pp_lt (mulF_lt _ _)) (pp_lt (mulF_lt _ _)))
  have HC25 := Lib.hid (subf_any (mulF (z1) (z2)) (mulF (dN) (mulF (t1) (t2))) (pp_lt (mulF_lt _ _)) (pp_lt (mulF_lt _ _)))
  have HC27 := Lib.hid (mulf_any (addF (mulF (x1) (y2)) (mulF (y1) (x2))) (subF (mulF (z1) (z2)) (mulF (dN) (mulF (t1) (t2)))) (pp_lt (addF_lt _ _)) (pp_lt (subF_lt _ _)))
  have HC29 := Lib.hid (mulf_any (addF (mulF (y1) (y2)) (mulF (x1) (x2))) (addF (mulF (z1) (z2)) (mulF (dN) (mulF (t1) (t2)))) (pp_lt (addF_lt _ _)) (pp_lt (addF_lt _ _)))
  have HC31 := Lib.hid (mulf_any (addF (mulF (z1) (z2)) (mulF (dN) (mulF (t1) (t2)))) (subF (mulF (z1) (z2)) (mulF (dN) (mulF (t1) (t2)))) (pp_lt (addF_lt _ _)) (pp_lt (subF_lt _ _)))
  have HC33 := Lib.hid (mulf_any (addF (mulF (x1) (y2)) (mulF (y1) (x2))) (addF (mulF (y1) (y2)) (mulF (x1) (x2))) (pp_lt (addF_lt _ _)) (pp_lt (addF_lt _ _)))
  obtain ⟨X1, hX1⟩ : ∃ zz9, Hid (zz9 = num (x1)) := ⟨_, Lib.hid rfl⟩
  have IX1 : IsNum X1 := by rw [hX1.out]; exact isNum _
  obtain ⟨Y1, hY1⟩ : ∃ zz9, Hid (zz9 = num (y1)) := ⟨_, Lib.hid rfl⟩
  have IY1 : IsNum Y1 := by rw [hY1.out]; exact isNum _
  obtain ⟨Z1, hZ1⟩ : ∃ zz9, Hid (zz9 = num (z1)) := ⟨_, Lib.hid rfl⟩
  have IZ1 : IsNum Z1 := by rw [hZ1.out]; exact isNum _
  obtain ⟨T1, hT1⟩ : ∃ zz9, Hid (zz9 = num (t1)) := ⟨_, Lib.hid rfl⟩
  have IT1 : IsNum T1 := by rw [hT1.out]; exact isNum _
  obtain ⟨X2, hX2⟩ : ∃ zz9, Hid (zz9 = num (x2)) := ⟨_, Lib.hid rfl⟩
  have IX2 : IsNum X2 := by rw [hX2.out]; exact isNum _
  obtain ⟨Y2, hY2⟩ : ∃ zz9, Hid (zz9 = num (y2)) := ⟨_, Lib.hid rfl⟩
  have IY2 : IsNum Y2 := by rw [hY2.out]; exact isNum _
  obtain ⟨Z2, hZ2⟩ : ∃ zz9, Hid (zz9 = num (z2)) := ⟨_, Lib.hid rfl⟩
  have IZ2 : IsNum Z2 := by rw [hZ2.out]; exact isNum _
  obtain ⟨T2, hT2⟩ : ∃ zz9, Hid (zz9 = num (t2)) := ⟨_, Lib.hid rfl⟩
  have IT2 : IsNum T2 := by rw [hT2.out]; exact isNum _
  obtain ⟨PA, hPA⟩ : ∃ zz9, Hid (zz9 = X1 ++ Y1 ++ Z1 ++ T1) := ⟨_, Lib.hid rfl⟩
  have IPA : IsRw 16 PA := by rw [hPA.out]; exact rw_app (rw_app (rw_app (isRw4 IX1) (isRw4 IY1)) (isRw4 IZ1)) (isRw4 IT1)
  have SPA_0 : Part PA 0 X1 := by rw [hPA.out]; exact part_left 0 (part_left 0 (part_left 0 (part_all X1) Y1) Z1) T1
  have SPA_4 : Part PA 4 Y1 := by rw [hPA.out]; exact part_left 4 (part_left 4 (part_right (X1) Y1 4 (by simp [IX1.size])) Z1) T1
  have SPA_8 : Part PA 8 Z1 := by rw [hPA.out]; exact part_left 8 (part_right (X1 ++ Y1) Z1 8 (by simp [IX1.size, IY1.size])) T1
  have SPA_12 : Part PA 12 T1 := by rw [hPA.out]; exact part_right (X1 ++ Y1 ++ Z1) T1 12 (by simp [IX1.size, IY1.size, IZ1.size])
  obtain ⟨PB, hPB⟩ : ∃ zz9, Hid (zz9 = X2 ++ Y2 ++ Z2 ++ T2) := ⟨_, Lib.hid rfl⟩
  have IPB : IsRw 16 PB := by rw [hPB.out]; exact rw_app (rw_app (rw_app (isRw4 IX2) (isRw4 IY2)) (isRw4 IZ2)) (isRw4 IT2)
  have SPB_0 : Part PB 0 X2 := by rw [hPB.out]; exact part_left 0 (part_left 0 (part_left 0 (part_all X2) Y2) Z2) T2
  have SPB_4 : Part PB 4 Y2 := by rw [hPB.out]; exact part_left 4 (part_left 4 (part_right (X2) Y2 4 (by simp [IX2.size])) Z2) T2
  have SPB_8 : Part PB 8 Z2 := by rw [hPB.out]; exact part_left 8 (part_right (X2 ++ Y2) Z2 8 (by simp [IX2.size, IY2.size])) T2
  have SPB_12 : Part PB 12 T2 := by rw [hPB.out]; exact part_right (X2 ++ Y2 ++ Z2) T2 12 (by simp [IX2.size, IY2.size, IZ2.size])
  obtain ⟨ZR1, hZR1⟩ : ∃ zz9, Hid (zz9 = (rowOf .u64 16 (fun _ => 0)).toArray) := ⟨_, Lib.hid rfl⟩
  have SZZR1 : ZR1.size = 16 := by rw [hZR1.out]; rfl
  obtain ⟨NN2, hNN2⟩ : ∃ zz9, Hid (zz9 = num (mulF (z1) (z2))) := ⟨_, Lib.hid rfl⟩
  have INN2 : IsNum NN2 := by rw [hNN2.out]; exact isNum _
  obtain ⟨NN4, hNN4⟩ : ∃ zz9, Hid (zz9 = num (0)) := ⟨_, Lib.hid rfl⟩
  have INN4 : IsNum NN4 := by rw [hNN4.out]; exact isNum _
  obtain ⟨NN5, hNN5⟩ : ∃ zz9, Hid (zz9 = num (dN)) := ⟨_, Lib.hid rfl⟩
  have INN5 : IsNum NN5 := by rw [hNN5.out]; exact isNum _
  obtain ⟨NN6, hNN6⟩ : ∃ zz9, Hid (zz9 = num (mulF (t1) (t2))) := ⟨_, Lib.hid rfl⟩
  have INN6 : IsNum NN6 := by rw [hNN6.out]; exact isNum _
  obtain ⟨NN8, hNN8⟩ : ∃ zz9, Hid (zz9 = num (mulF (dN) (mulF (t1) (t2)))) := ⟨_, Lib.hid rfl⟩
  have INN8 : IsNum NN8 := by rw [hNN8.out]; exact isNum _
  obtain ⟨NN10, hNN10⟩ : ∃ zz9, Hid (zz9 = num (mulF (x1) (y2))) := ⟨_, Lib.hid rfl⟩
  have INN10 : IsNum NN10 := by rw [hNN10.out]; exact isNum _
  obtain ⟨NN12, hNN12⟩ : ∃ zz9, Hid (zz9 = num (mulF (y1) (x2))) := ⟨_, Lib.hid rfl⟩
  have INN12 : IsNum NN12 := by rw [hNN12.out]; exact isNum _
  obtain ⟨NN14, hNN14⟩ : ∃ zz9, Hid (zz9 = num (addF (mulF (x1) (y2)) (mulF (y1) (x2)))) := ⟨_, Lib.hid rfl⟩
  have INN14 : IsNum NN14 := by rw [hNN14.out]; exact isNum _
  obtain ⟨NN16, hNN16⟩ : ∃ zz9, Hid (zz9 = num (mulF (y1) (y2))) := ⟨_, Lib.hid rfl⟩
  have INN16 : IsNum NN16 := by rw [hNN16.out]; exact isNum _
  obtain ⟨NN18, hNN18⟩ : ∃ zz9, Hid (zz9 = num (mulF (x1) (x2))) := ⟨_, Lib.hid rfl⟩
  have INN18 : IsNum NN18 := by rw [hNN18.out]; exact isNum _
  obtain ⟨NN20, hNN20⟩ : ∃ zz9, Hid (zz9 = num (addF (mulF (y1) (y2)) (mulF (x1) (x2)))) := ⟨_, Lib.hid rfl⟩
  have INN20 : IsNum NN20 := by rw [hNN20.out]; exact isNum _
  obtain ⟨NN22, hNN22⟩ : ∃ zz9, Hid (zz9 = num (addF (mulF (z1) (z2)) (mulF (dN) (mulF (t1) (t2))))) := ⟨_, Lib.hid rfl⟩
  have INN22 : IsNum NN22 := by rw [hNN22.out]; exact isNum _
  obtain ⟨NN24, hNN24⟩ : ∃ zz9, Hid (zz9 = num (subF (mulF (z1) (z2)) (mulF (dN) (mulF (t1) (t2))))) := ⟨_, Lib.hid rfl⟩
  have INN24 : IsNum NN24 := by rw [hNN24.out]; exact isNum _
  obtain ⟨NN26, hNN26⟩ : ∃ zz9, Hid (zz9 = num (mulF (addF (mulF (x1) (y2)) (mulF (y1) (x2))) (subF (mulF (z1) (z2)) (mulF (dN) (mulF (t1) (t2)))))) := ⟨_, Lib.hid rfl⟩
  have INN26 : IsNum NN26 := by rw [hNN26.out]; exact isNum _
  obtain ⟨NN28, hNN28⟩ : ∃ zz9, Hid (zz9 = num (mulF (addF (mulF (y1) (y2)) (mulF (x1) (x2))) (addF (mulF (z1) (z2)) (mulF (dN) (mulF (t1) (t2)))))) := ⟨_, Lib.hid rfl⟩
  have INN28 : IsNum NN28 := by rw [hNN28.out]; exact isNum _
  obtain ⟨NN30, hNN30⟩ : ∃ zz9, Hid (zz9 = num (mulF (addF (mulF (z1) (z2)) (mulF (dN) (mulF (t1) (t2)))) (subF (mulF (z1) (z2)) (mulF (dN) (mulF (t1) (t2)))))) := ⟨_, Lib.hid rfl⟩
  have INN30 : IsNum NN30 := by rw [hNN30.out]; exact isNum _
  obtain ⟨NN32, hNN32⟩ : ∃ zz9, Hid (zz9 = num (mulF (addF (mulF (x1) (y2)) (mulF (y1) (x2))) (addF (mulF (y1) (y2)) (mulF (x1) (x2))))) := ⟨_, Lib.hid rfl⟩
  have INN32 : IsNum NN32 := by rw [hNN32.out]; exact isNum _
  obtain ⟨PP35, hPP35⟩ : ∃ zz9, Hid (zz9 = NN26 ++ NN28 ++ NN30 ++ NN32) := ⟨_, Lib.hid rfl⟩
  have IPP35 : IsRw 16 PP35 := by rw [hPP35.out]; exact rw_app (rw_app (rw_app (isRw4 INN26) (isRw4 INN28)) (isRw4 INN30)) (isRw4 INN32)
  have SPP35_0 : Part PP35 0 NN26 := by rw [hPP35.out]; exact part_left 0 (part_left 0 (part_left 0 (part_all NN26) NN28) NN30) NN32
  have SPP35_4 : Part PP35 4 NN28 := by rw [hPP35.out]; exact part_left 4 (part_left 4 (part_right (NN26) NN28 4 (by simp [INN26.size])) NN30) NN32
  have SPP35_8 : Part PP35 8 NN30 := by rw [hPP35.out]; exact part_left 8 (part_right (NN26 ++ NN28) NN30 8 (by simp [INN26.size, INN28.size])) NN32
  have SPP35_12 : Part PP35 12 NN32 := by rw [hPP35.out]; exact part_right (NN26 ++ NN28 ++ NN30) NN32 12 (by simp [INN26.size, INN28.size, INN30.size])
  have HZ66 : ∀ w, (zeroValue 103).run Tryz.prog w = .ok (.agg ZR1) w := by rw [hZR1.out]; exact zeroT66
  have HZ24 : ∀ w, (zeroValue 36).run Tryz.prog w = .ok (.agg NN4) w := by rw [hNN4.out]; exact zero_run
  have SZNN4 := INN4.size
  have LD : ∀ W, Below w.heap.size w W → (loadVar 36 ⟨2, 0, none⟩).run Tryz.prog W = .ok (.agg NN5) W := fun W hb => by rw [hNN5.out]; exact (HG.out.below hb).load
  have BF34 : ∀ w, (Instr.build 103 #[(0, .agg NN26), (1, .agg NN28), (2, .agg NN30), (3, .agg NN32)]).run Tryz.prog w = .ok (.agg PP35) w := by rw [hPP35.out]; exact br0123 INN26 INN28 INN30 INN32
  try simp only [← hX1.out, ← hY1.out, ← hZ1.out, ← hT1.out, ← hX2.out, ← hY2.out, ← hZ2.out, ← hT2.out, ← hNN2.out, ← hNN4.out, ← hNN5.out, ← hNN6.out, ← hNN8.out, ← hNN10.out, ← hNN12.out, ← hNN14.out, ← hNN16.out, ← hNN18.out, ← hNN20.out, ← hNN22.out, ← hNN24.out, ← hNN26.out, ← hNN28.out, ← hNN30.out, ← hNN32.out] at HC3 HC7 HC9 HC11 HC13 HC15 HC17 HC19 HC21 HC23 HC25 HC27 HC29 HC31 HC33 ⊢
  try simp only [← hPA.out, ← hPB.out, ← hZR1.out, ← hPP35.out] at HC3 HC7 HC9 HC11 HC13 HC15 HC17 HC19 HC21 HC23 HC25 HC27 HC29 HC31 HC33 ⊢
  clear hX1 hY1 hZ1 hT1 hX2 hY2 hZ2 hT2 hPA hPB hZR1 hNN2 hNN4 hNN5 hNN6 hNN8 hNN10 hNN12 hNN14 hNN16 hNN18 hNN20 hNN22 hNN24 hNN26 hNN28 hNN30 hNN32 hPP35 hx1 hy1 hz1 ht1 hx2 hy2 hz2 ht2 hG0
  go_enter Tryz.func91, Tryz.ntmps91
  have HS : Hid (Kt w [] w) := Lib.hid (Kt.nil w)
  go_upto_region 0 with fail
  refine wp_region_list ?_
  refine wpList_run rfl _ (exec_box _ 103 (.tmp 0) rfl _ rfl (PA) rfl) ?_
  simp only [Act.put, sT, sS, sZ]
  have bg3 := HS.out.1.size
  have HS2 := Lib.hid (HS.out.new PA 103)
  clear HS
  generalize w.alloc (.cells PA 103) = w1 at *
  refine wpList_run rfl _ (exec_box _ 103 (.tmp 1) rfl _ rfl (PB) rfl) ?_
  simp only [Act.put, sT, sS, sZ]
  have lg6_0 := HS2.out.lt (w.heap.size) PA 103 (by simp)
  have bg6 := HS2.out.1.size
  have HS5 := Lib.hid (HS2.out.new PB 103)
  clear HS2
  generalize w1.alloc (.cells PB 103) = w4 at *
  generalize w1.heap.size = g6 at *
  refine wpList_run rfl _ (exec_alloc_agg _ 103 rfl _ (HZ66 _)) ?_
  simp only [Act.put, sT, sS, sZ]
  have lg9_0 := HS5.out.lt (g6) PB 103 (by simp)
  have lg9_1 := HS5.out.lt (w.heap.size) PA 103 (by simp)
  have bg9 := HS5.out.1.size
  have HS8 := Lib.hid (HS5.out.new ZR1 103)
  clear HS5
  generalize w4.alloc (.cells ZR1 103) = w7 at *
  generalize w4.heap.size = g9 at *
  refine wpList_nil ?_
  go_upto_region 1 with fail
  refine wp_region_list ?_
  refine wpList_run rfl (.pointer (some ⟨w.heap.size, 8, none⟩)) (exec_field 103 (.tmp 2) 2 rfl _ _ rfl _ (fa66_2 (w.heap.size) _)) ?_
  simp only [Act.put, sT, sS, sZ]
  refine wpList_run rfl (.agg Z1) (exec_load_of _ 36 (.tmp 11) rfl ⟨w.heap.size, 8, none⟩ rfl _ (load_part (HS8.out.get (w.heap.size) PA 103 (by simp)) IZ1 8 SPA_8)) ?_
  simp only [Act.put, sT, sS, sZ]
  refine wpList_run rfl (.pointer (some ⟨g6, 8, none⟩)) (exec_field 103 (.tmp 3) 2 rfl _ _ rfl _ (fa66_2 (g6) _)) ?_
  simp only [Act.put, sT, sS, sZ]
  refine wpList_run rfl (.agg Z2) (exec_load_of _ 36 (.tmp 13) rfl ⟨g6, 8, none⟩ rfl _ (load_part (HS8.out.get (g6) PB 103 (by simp)) IZ2 8 SPB_8)) ?_
  simp only [Act.put, sT, sS, sZ]
  refine wpList_callF rfl 130 #[.tmp 12, .tmp 14] #[36, 36] rfl #[.agg Z1, .agg Z2] en40 (HC3.out _) ?_
  rintro v w10 ⟨he, hb⟩
  cases he
  have HS11 := Lib.hid (HS8.out.below hb)
  clear hb HS8
  simp only [Act.put, sT, sS, sZ]
  refine wpList_run rfl _ (exec_alloc_agg _ 36 rfl _ (HZ24 _)) ?_
  simp only [Act.put, sT, sS, sZ]
  have lg14_0 := HS11.out.lt (g9) ZR1 103 (by simp)
  have lg14_1 := HS11.out.lt (g6) PB 103 (by simp)
  have lg14_2 := HS11.out.lt (w.heap.size) PA 103 (by simp)
  have bg14 := HS11.out.1.size
  have HS13 := Lib.hid (HS11.out.new NN4 36)
  clear HS11
  generalize w10.alloc (.cells NN4 36) = w12 at *
  generalize w10.heap.size = g14 at *
  refine wpList_run0 rfl (exec_store24 _ (.tmp 5) (.tmp 15) rfl (g14) rfl NN2 INN2 rfl NN4 36 (HS13.out.get (g14) NN4 36 (by simp)) SZNN4) ?_
  simp only [Act.put, sT, sS, sZ]
  have HS16 : Hid (Kt w [(g14, NN2, 36), (g9, ZR1, 103), (g6, PB, 103), (w.heap.size, PA, 103)] (w12.setRow (g14) NN2)) := Lib.hid (HS13.out.set (g14) NN2 NN4 36 (HS13.out.get (g14) NN4 36 (by simp)) (by omega) (fun p hp => by simp at hp; rcases hp with rfl | rfl | rfl | rfl <;> first | exact .inl rfl | exact .inr ⟨by simp, by simp only; omega⟩))
  clear HS13
  generalize w12.setRow (g14) NN2 = w15 at *
  refine wpList_nil ?_
  go_upto_region 2 with fail
  refine wp_cut (fun a' W' => ∃ gq17s0, a' = { tmps := #[.agg PA, .agg PB, .pointer (some ⟨w.heap.size, 0, none⟩), .pointer (some ⟨g6, 0, none⟩), .pointer (some ⟨g9, 0, none⟩), .pointer (some ⟨g14, 0, none⟩), .pointer (some ⟨gq17s0, 0, none⟩), undef, undef, undef, undef, .pointer (some ⟨w.heap.size, 8, none⟩), .agg Z1, .pointer (some ⟨g6, 8, none⟩), .agg Z2, .agg NN2, .agg NN5, .pointer (some ⟨w.heap.size, 12, none⟩), .agg T1, .pointer (some ⟨g6, 12, none⟩), .agg T2, .agg NN6, .agg NN8, undef, undef, undef, undef, undef, undef, undef, undef, undef, undef, undef, undef, undef, undef, undef, undef, undef, undef, undef, undef, undef, undef, undef, undef, undef, undef, undef, undef, undef, undef, undef, undef, undef, undef, undef, undef, undef, undef, undef, undef, undef], defers := [] } ∧ Kt w [(g14, NN2, 36), (g9, ZR1, 103), (g6, PB, 103), (w.heap.size, PA, 103), (gq17s0, NN8, 36)] W' ∧ w.heap.size ≤ gq17s0 ∧ gq17s0 ≠ g14 ∧ gq17s0 ≠ g9 ∧ gq17s0 ≠ g6 ∧ gq17s0 ≠ w.heap.size) ?_ ?_
  · refine wp_region_any (by kernel_rfl) ?_
    change wpAny _ _ _ _ _ _ _ (World.drew _)
    have HDq17x1 := HS16.out.drew
    clear HS16
    generalize w15.drew = wdq17x2 at *
    refine any_of_F (S := Kt w [(g14, NN2, 36), (g9, ZR1, 103), (g6, PB, 103), (w.heap.size, PA, 103)]) (f := 1000) _ _ _ _ ?_
    refine F_have 1 #[true, true, true, true, true, true, true, true, false] (fun a W => ∃ gjq17_0_0, a = { tmps := #[.agg PA, .agg PB, .pointer (some ⟨w.heap.size, 0, none⟩), .pointer (some ⟨g6, 0, none⟩), .pointer (some ⟨g9, 0, none⟩), .pointer (some ⟨g14, 0, none⟩), .pointer (some ⟨gjq17_0_0, 0, none⟩), undef, undef, undef, undef, .pointer (some ⟨w.heap.size, 8, none⟩), .agg Z1, .pointer (some ⟨g6, 8, none⟩), .agg Z2, .agg NN2, .agg NN5, .pointer (some ⟨w.heap.size, 12, none⟩), .agg T1, .pointer (some ⟨g6, 12, none⟩), .agg T2, .agg NN6, .agg NN8, undef, undef, undef, undef, undef, undef, undef, undef, undef, undef, undef, undef, undef, undef, undef, undef, undef, undef, undef, undef, undef, undef, undef, undef, undef, undef, undef, undef, undef, undef, undef, undef, undef, undef, undef, undef, undef, undef, undef, undef, undef], defers := [] } ∧ Kt w [(g14, NN2, 36), (g9, ZR1, 103), (g6, PB, 103), (w.heap.size, PA, 103)] W ∧ Kt w [(gjq17_0_0, NN4, 36)] W ∧ w.heap.size ≤ gjq17_0_0 ∧ gjq17_0_0 ≠ g14 ∧ gjq17_0_0 ≠ g9 ∧ gjq17_0_0 ≠ g6 ∧ gjq17_0_0 ≠ w.heap.size) ?_ ?_
    · rintro a wq17x11 ⟨gjq17_0_0, rfl, Hq17x12, Eq17x13, fJq17_0_0, fJq17_0_1, fJq17_0_2, fJq17_0_3, fJq17_0_4⟩
      refine rdy [8] (ReadyF.op0 (.store 36 (.tmp 6) (.tmp 22)) rfl (fun o ho => exec_store24 wq17x11 (.tmp 6) (.tmp 22) ho (gjq17_0_0) rfl NN8 INN8 rfl NN4 36 (Eq17x13.get (gjq17_0_0) NN4 36 (by simp)) SZNN4) (Hq17x12.set (gjq17_0_0) NN8 NN4 36 (Eq17x13.get (gjq17_0_0) NN4 36 (by simp)) (by omega) (fun p hp => by simp at hp; rcases hp with rfl | rfl | rfl | rfl <;> exact .inr ⟨by simp, by simp only; omega⟩)) ?_ ReadyF.nil)
      have Hq17x15 := Hq17x12.set (gjq17_0_0) NN8 NN4 36 (Eq17x13.get (gjq17_0_0) NN4 36 (by simp)) (by omega) (m := [(g14, NN2, 36), (g9, ZR1, 103), (g6, PB, 103), (w.heap.size, PA, 103)]) (fun p hp => by simp at hp; rcases hp with rfl | rfl | rfl | rfl <;> exact .inr ⟨by simp, by simp only; omega⟩)
      have Eq17x16 := Eq17x13.set (gjq17_0_0) NN8 NN4 36 (Eq17x13.get (gjq17_0_0) NN4 36 (by simp)) (by omega) (m := [(gjq17_0_0, NN8, 36)]) (fun p hp => by simp at hp; subst hp; first | exact .inl rfl | exact .inr ⟨by simp, by simp only; omega⟩)
      generalize wq17x11.setRow (gjq17_0_0) NN8 = wq17x14 at *
      refine AnyF.done (by kernel_rfl) ?_ _
      refine nrm_intro ⟨gjq17_0_0, rfl, (Hq17x15.app Eq17x16).sub (fun p hp => by simp at hp; rcases hp with rfl | rfl | rfl | rfl | rfl <;> simp), by omega, by omega, by omega, by omega, by omega⟩
    intro Jq17_0
    refine F_have 2 #[true, true, true, true, true, true, false, true, false] (fun a W => ∃ gjq17_1_0, a = { tmps := #[.agg PA, .agg PB, .pointer (some ⟨w.heap.size, 0, none⟩), .pointer (some ⟨g6, 0, none⟩), .pointer (some ⟨g9, 0, none⟩), .pointer (some ⟨g14, 0, none⟩), .pointer (some ⟨gjq17_1_0, 0, none⟩), undef, undef, undef, undef, .pointer (some ⟨w.heap.size, 8, none⟩), .agg Z1, .pointer (some ⟨g6, 8, none⟩), .agg Z2, .agg NN2, .agg NN5, .pointer (some ⟨w.heap.size, 12, none⟩), .agg T1, .pointer (some ⟨g6, 12, none⟩), .agg T2, .agg NN6, undef, undef, undef, undef, undef, undef, undef, undef, undef, undef, undef, undef, undef, undef, undef, undef, undef, undef, undef, undef, undef, undef, undef, undef, undef, undef, undef, undef, undef, undef, undef, undef, undef, undef, undef, undef, undef, undef, undef, undef, undef, undef], defers := [] } ∧ Kt w [(g14, NN2, 36), (g9, ZR1, 103), (g6, PB, 103), (w.heap.size, PA, 103)] W ∧ Kt w [(gjq17_1_0, NN4, 36)] W ∧ w.heap.size ≤ gjq17_1_0 ∧ gjq17_1_0 ≠ g14 ∧ gjq17_1_0 ≠ g9 ∧ gjq17_1_0 ≠ g6 ∧ gjq17_1_0 ≠ w.heap.size) ?_ ?_
    · rintro a wq17x17 ⟨gjq17_1_0, rfl, Hq17x18, Eq17x19, fJq17_1_0, fJq17_1_1, fJq17_1_2, fJq17_1_3, fJq17_1_4⟩
      refine rdy [6] (rcl (some 22) 130 #[.tmp 16, .tmp 21] #[36, 36] #[.agg NN5, .agg NN6] en40 _ (HC9.out _) ?_ ReadyF.nil)
      rintro v wq17x20 ⟨he, hb⟩
      cases he
      have Hq17x21 := Hq17x18.below hb
      have Eq17x22 := Eq17x19.below hb
      clear hb
      refine ⟨Hq17x21, ?_⟩
      simp only [Act.put, sT, sS, sZ]
      exact F_to (by kernel_rfl) (by kernel_rfl) (Jq17_0 _ _ ⟨gjq17_1_0, rfl, Hq17x21, Eq17x22, by omega, by omega, by omega, by omega, by omega⟩)
    intro Jq17_1
    refine tkG 0 (some 16) (.load 36 (.global 2)) none (.agg NN5) (fun o ho w2 hw => exec_load_of _ 36 (.global 2) ho ⟨2, 0, none⟩ rfl _ (LD _ (hw.1))) HDq17x1 ?_
    simp only [Act.put, sT, sS, sZ]
    refine tkG 1 (some 17) (.fieldAddr 103 (.tmp 2) 3) none (.pointer (some ⟨w.heap.size, 12, none⟩)) (fun o ho w2 hw => exec_field 103 (.tmp 2) 3 ho _ _ rfl w2 (fa66_3 (w.heap.size) w2)) HDq17x1 ?_
    simp only [Act.put, sT, sS, sZ]
    refine tkG 2 (some 18) (.load 36 (.tmp 17)) none (.agg T1) (fun o ho w2 hw => exec_load_of _ 36 (.tmp 17) ho ⟨w.heap.size, 12, none⟩ rfl _ (load_part (hw.get (w.heap.size) PA 103 (by simp)) IT1 12 SPA_12)) HDq17x1 ?_
    simp only [Act.put, sT, sS, sZ]
    refine tkG 3 (some 19) (.fieldAddr 103 (.tmp 3) 3) none (.pointer (some ⟨g6, 12, none⟩)) (fun o ho w2 hw => exec_field 103 (.tmp 3) 3 ho _ _ rfl w2 (fa66_3 (g6) w2)) HDq17x1 ?_
    simp only [Act.put, sT, sS, sZ]
    refine tkG 4 (some 20) (.load 36 (.tmp 19)) none (.agg T2) (fun o ho w2 hw => exec_load_of _ 36 (.tmp 19) ho ⟨g6, 12, none⟩ rfl _ (load_part (hw.get (g6) PB 103 (by simp)) IT2 12 SPB_12)) HDq17x1 ?_
    simp only [Act.put, sT, sS, sZ]
    refine rdy [5, 7] (rcl (some 21) 130 #[.tmp 18, .tmp 20] #[36, 36] #[.agg T1, .agg T2] en40 _ (HC7.out _) ?_ (ral 6 36 HZ24 (HDq17x1.alloc _) ?_ ReadyF.nil))
    · rintro v wq17x23 ⟨he, hb⟩
      cases he
      have Hq17x24 := HDq17x1.below hb
      clear hb
      refine ⟨Hq17x24, ?_⟩
      simp only [Act.put, sT, sS, sZ]
      refine rdy [6, 7] (rcl (some 22) 130 #[.tmp 16, .tmp 21] #[36, 36] #[.agg NN5, .agg NN6] en40 _ (HC9.out _) ?_ (ral 6 36 HZ24 (Hq17x24.alloc _) ?_ ReadyF.nil))
      · rintro v wq17x25 ⟨he, hb⟩
        cases he
        have Hq17x26 := Hq17x24.below hb
        clear hb
        refine ⟨Hq17x26, ?_⟩
        simp only [Act.put, sT, sS, sZ]
        refine rdy [7] (ral 6 36 HZ24 (Hq17x26.alloc _) ?_ ReadyF.nil)
        have l0wq17x27 := Hq17x26.lt (g14) NN2 36 (by simp)
        have l1wq17x27 := Hq17x26.lt (g9) ZR1 103 (by simp)
        have l2wq17x27 := Hq17x26.lt (g6) PB 103 (by simp)
        have l3wq17x27 := Hq17x26.lt (w.heap.size) PA 103 (by simp)
        have bwq17x27 := Hq17x26.1.size
        have Hq17x28 := Hq17x26.alloc (.cells NN4 36)
        have Eq17x29 := (Hq17x26.sub (m := []) (fun p hp => by cases hp)).new NN4 36
        simp only [Act.put, sT, sS, sZ]
        obtain ⟨wq17x27, hwq17x27⟩ : ∃ W, W = wq17x25.alloc (.cells NN4 36) := ⟨_, rfl⟩
        rw [← hwq17x27] at Hq17x28 Eq17x29 ⊢
        clear hwq17x27
        exact F_to (by kernel_rfl) (by kernel_rfl) (Jq17_0 _ _ ⟨wq17x25.heap.size, rfl, Hq17x28, Eq17x29, by omega, by omega, by omega, by omega, by omega⟩)
      · have l0wq17x30 := Hq17x24.lt (g14) NN2 36 (by simp)
        have l1wq17x30 := Hq17x24.lt (g9) ZR1 103 (by simp)
        have l2wq17x30 := Hq17x24.lt (g6) PB 103 (by simp)
        have l3wq17x30 := Hq17x24.lt (w.heap.size) PA 103 (by simp)
        have bwq17x30 := Hq17x24.1.size
        have Hq17x31 := Hq17x24.alloc (.cells NN4 36)
        have Eq17x32 := (Hq17x24.sub (m := []) (fun p hp => by cases hp)).new NN4 36
        simp only [Act.put, sT, sS, sZ]
        obtain ⟨wq17x30, hwq17x30⟩ : ∃ W, W = wq17x23.alloc (.cells NN4 36) := ⟨_, rfl⟩
        rw [← hwq17x30] at Hq17x31 Eq17x32 ⊢
        clear hwq17x30
        exact F_to (by kernel_rfl) (by kernel_rfl) (Jq17_1 _ _ ⟨wq17x23.heap.size, rfl, Hq17x31, Eq17x32, by omega, by omega, by omega, by omega, by omega⟩)
    · have l0wq17x33 := HDq17x1.lt (g14) NN2 36 (by simp)
      have l1wq17x33 := HDq17x1.lt (g9) ZR1 103 (by simp)
      have l2wq17x33 := HDq17x1.lt (g6) PB 103 (by simp)
      have l3wq17x33 := HDq17x1.lt (w.heap.size) PA 103 (by simp)
      have bwq17x33 := HDq17x1.1.size
      have Hq17x34 := HDq17x1.alloc (.cells NN4 36)
      have Eq17x35 := (HDq17x1.sub (m := []) (fun p hp => by cases hp)).new NN4 36
      simp only [Act.put, sT, sS, sZ]
      obtain ⟨wq17x33, hwq17x33⟩ : ∃ W, W = wdq17x2.alloc (.cells NN4 36) := ⟨_, rfl⟩
      rw [← hwq17x33] at Hq17x34 Eq17x35 ⊢
      clear hwq17x33
      refine rdy [5] (rcl (some 21) 130 #[.tmp 18, .tmp 20] #[36, 36] #[.agg T1, .agg T2] en40 _ (HC7.out _) ?_ ReadyF.nil)
      rintro v wq17x36 ⟨he, hb⟩
      cases he
      have Hq17x37 := Hq17x34.below hb
      have Eq17x38 := Eq17x35.below hb
      clear hb
      refine ⟨Hq17x37, ?_⟩
      simp only [Act.put, sT, sS, sZ]
      exact F_to (by kernel_rfl) (by kernel_rfl) (Jq17_1 _ _ ⟨wdq17x2.heap.size, rfl, Hq17x37, Eq17x38, by omega, by omega, by omega, by omega, by omega⟩)
  rintro a' w18 ⟨gq17s0, rfl, hk, e20, e21, e22, e23, e24⟩
  have HS19 := Lib.hid hk
  clear hk HS16
  go_upto_region 3 with fail
  refine wp_cut (fun a' W' => ∃ gq25s0, a' = { tmps := #[.agg PA, .agg PB, .pointer (some ⟨w.heap.size, 0, none⟩), .pointer (some ⟨g6, 0, none⟩), .pointer (some ⟨g9, 0, none⟩), .pointer (some ⟨g14, 0, none⟩), .pointer (some ⟨gq17s0, 0, none⟩), .pointer (some ⟨gq25s0, 0, none⟩), undef, undef, undef, .pointer (some ⟨w.heap.size, 8, none⟩), .agg Z1, .pointer (some ⟨g6, 8, none⟩), .agg Z2, .agg NN2, .agg NN5, .pointer (some ⟨w.heap.size, 12, none⟩), .agg T1, .pointer (some ⟨g6, 12, none⟩), .agg T2, .agg NN6, .agg NN8, .pointer (some ⟨w.heap.size, 0, none⟩), .agg X1, .pointer (some ⟨g6, 4, none⟩), .agg Y2, .agg NN10, .pointer (some ⟨w.heap.size, 4, none⟩), .agg Y1, .pointer (some ⟨g6, 0, none⟩), .agg X2, .agg NN12, .agg NN14, undef, undef, undef, undef, undef, undef, undef, undef, undef, undef, undef, undef, undef, undef, undef, undef, undef, undef, undef, undef, undef, undef, undef, undef, undef, undef, undef, undef, undef, undef], defers := [] } ∧ Kt w [(g14, NN2, 36), (g9, ZR1, 103), (g6, PB, 103), (w.heap.size, PA, 103), (gq17s0, NN8, 36), (gq25s0, NN14, 36)] W' ∧ w.heap.size ≤ gq25s0 ∧ gq25s0 ≠ g14 ∧ gq25s0 ≠ g9 ∧ gq25s0 ≠ g6 ∧ gq25s0 ≠ w.heap.size ∧ gq25s0 ≠ gq17s0) ?_ ?_
  · refine wp_region_any (by kernel_rfl) ?_
    change wpAny _ _ _ _ _ _ _ (World.drew _)
    have HDq25x1 := HS19.out.drew
    clear HS19
    generalize w18.drew = wdq25x2 at *
    refine any_of_F (S := Kt w [(g14, NN2, 36), (g9, ZR1, 103), (g6, PB, 103), (w.heap.size, PA, 103), (gq17s0, NN8, 36)]) (f := 1000) _ _ _ _ ?_
    refine F_have 1 #[true, true, true, true, true, true, true, true, true, true, true, true, false] (fun a W => ∃ gjq25_0_0, a = { tmps := #[.agg PA, .agg PB, .pointer (some ⟨w.heap.size, 0, none⟩), .pointer (some ⟨g6, 0, none⟩), .pointer (some ⟨g9, 0, none⟩), .pointer (some ⟨g14, 0, none⟩), .pointer (some ⟨gq17s0, 0, none⟩), .pointer (some ⟨gjq25_0_0, 0, none⟩), undef, undef, undef, .pointer (some ⟨w.heap.size, 8, none⟩), .agg Z1, .pointer (some ⟨g6, 8, none⟩), .agg Z2, .agg NN2, .agg NN5, .pointer (some ⟨w.heap.size, 12, none⟩), .agg T1, .pointer (some ⟨g6, 12, none⟩), .agg T2, .agg NN6, .agg NN8, .pointer (some ⟨w.heap.size, 0, none⟩), .agg X1, .pointer (some ⟨g6, 4, none⟩), .agg Y2, .agg NN10, .pointer (some ⟨w.heap.size, 4, none⟩), .agg Y1, .pointer (some ⟨g6, 0, none⟩), .agg X2, .agg NN12, .agg NN14, undef, undef, undef, undef, undef, undef, undef, undef, undef, undef, undef, undef, undef, undef, undef, undef, undef, undef, undef, undef, undef, undef, undef, undef, undef, undef, undef, undef, undef, undef], defers := [] } ∧ Kt w [(g14, NN2, 36), (g9, ZR1, 103), (g6, PB, 103), (w.heap.size, PA, 103), (gq17s0, NN8, 36)] W ∧ Kt w [(gjq25_0_0, NN4, 36)] W ∧ w.heap.size ≤ gjq25_0_0 ∧ gjq25_0_0 ≠ g14 ∧ gjq25_0_0 ≠ g9 ∧ gjq25_0_0 ≠ g6 ∧ gjq25_0_0 ≠ w.heap.size ∧ gjq25_0_0 ≠ gq17s0) ?_ ?_
    · rintro a wq25x11 ⟨gjq25_0_0, rfl, Hq25x12, Eq25x13, fJq25_0_0, fJq25_0_1, fJq25_0_2, fJq25_0_3, fJq25_0_4, fJq25_0_5⟩
      refine rdy [12] (ReadyF.op0 (.store 36 (.tmp 7) (.tmp 33)) rfl (fun o ho => exec_store24 wq25x11 (.tmp 7) (.tmp 33) ho (gjq25_0_0) rfl NN14 INN14 rfl NN4 36 (Eq25x13.get (gjq25_0_0) NN4 36 (by simp)) SZNN4) (Hq25x12.set (gjq25_0_0) NN14 NN4 36 (Eq25x13.get (gjq25_0_0) NN4 36 (by simp)) (by omega) (fun p hp => by simp at hp; rcases hp with rfl | rfl | rfl | rfl | rfl <;> exact .inr ⟨by simp, by simp only; omega⟩)) ?_ ReadyF.nil)
      have Hq25x15 := Hq25x12.set (gjq25_0_0) NN14 NN4 36 (Eq25x13.get (gjq25_0_0) NN4 36 (by simp)) (by omega) (m := [(g14, NN2, 36), (g9, ZR1, 103), (g6, PB, 103), (w.heap.size, PA, 103), (gq17s0, NN8, 36)]) (fun p hp => by simp at hp; rcases hp with rfl | rfl | rfl | rfl | rfl <;> exact .inr ⟨by simp, by simp only; omega⟩)
      have Eq25x16 := Eq25x13.set (gjq25_0_0) NN14 NN4 36 (Eq25x13.get (gjq25_0_0) NN4 36 (by simp)) (by omega) (m := [(gjq25_0_0, NN14, 36)]) (fun p hp => by simp at hp; subst hp; first | exact .inl rfl | exact .inr ⟨by simp, by simp only; omega⟩)
      generalize wq25x11.setRow (gjq25_0_0) NN14 = wq25x14 at *
      refine AnyF.done (by kernel_rfl) ?_ _
      refine nrm_intro ⟨gjq25_0_0, rfl, (Hq25x15.app Eq25x16).sub (fun p hp => by simp at hp; rcases hp with rfl | rfl | rfl | rfl | rfl | rfl <;> simp), by omega, by omega, by omega, by omega, by omega, by omega⟩
    intro Jq25_0
    refine F_have 2 #[true, true, true, true, true, true, true, true, true, true, false, true, false] (fun a W => ∃ gjq25_1_0, a = { tmps := #[.agg PA, .agg PB, .pointer (some ⟨w.heap.size, 0, none⟩), .pointer (some ⟨g6, 0, none⟩), .pointer (some ⟨g9, 0, none⟩), .pointer (some ⟨g14, 0, none⟩), .pointer (some ⟨gq17s0, 0, none⟩), .pointer (some ⟨gjq25_1_0, 0, none⟩), undef, undef, undef, .pointer (some ⟨w.heap.size, 8, none⟩), .agg Z1, .pointer (some ⟨g6, 8, none⟩), .agg Z2, .agg NN2, .agg NN5, .pointer (some ⟨w.heap.size, 12, none⟩), .agg T1, .pointer (some ⟨g6, 12, none⟩), .agg T2, .agg NN6, .agg NN8, .pointer (some ⟨w.heap.size, 0, none⟩), .agg X1, .pointer (some ⟨g6, 4, none⟩), .agg Y2, .agg NN10, .pointer (some ⟨w.heap.size, 4, none⟩), .agg Y1, .pointer (some ⟨g6, 0, none⟩), .agg X2, .agg NN12, undef, undef, undef, undef, undef, undef, undef, undef, undef, undef, undef, undef, undef, undef, undef, undef, undef, undef, undef, undef, undef, undef, undef, undef, undef, undef, undef, undef, undef, undef, undef], defers := [] } ∧ Kt w [(g14, NN2, 36), (g9, ZR1, 103), (g6, PB, 103), (w.heap.size, PA, 103), (gq17s0, NN8, 36)] W ∧ Kt w [(gjq25_1_0, NN4, 36)] W ∧ w.heap.size ≤ gjq25_1_0 ∧ gjq25_1_0 ≠ g14 ∧ gjq25_1_0 ≠ g9 ∧ gjq25_1_0 ≠ g6 ∧ gjq25_1_0 ≠ w.heap.size ∧ gjq25_1_0 ≠ gq17s0) ?_ ?_
    · rintro a wq25x17 ⟨gjq25_1_0, rfl, Hq25x18, Eq25x19, fJq25_1_0, fJq25_1_1, fJq25_1_2, fJq25_1_3, fJq25_1_4, fJq25_1_5⟩
      refine rdy [10] (rcl (some 33) 131 #[.tmp 27, .tmp 32] #[36, 36] #[.agg NN10, .agg NN12] en41 _ (HC15.out _) ?_ ReadyF.nil)
      rintro v wq25x20 ⟨he, hb⟩
      cases he
      have Hq25x21 := Hq25x18.below hb
      have Eq25x22 := Eq25x19.below hb
      clear hb
      refine ⟨Hq25x21, ?_⟩
      simp only [Act.put, sT, sS, sZ]
      exact F_to (by kernel_rfl) (by kernel_rfl) (Jq25_0 _ _ ⟨gjq25_1_0, rfl, Hq25x21, Eq25x22, by omega, by omega, by omega, by omega, by omega, by omega⟩)
    intro Jq25_1
    refine F_have 3 #[true, true, true, true, true, true, true, true, true, false, false, true, false] (fun a W => ∃ gjq25_2_0, a = { tmps := #[.agg PA, .agg PB, .pointer (some ⟨w.heap.size, 0, none⟩), .pointer (some ⟨g6, 0, none⟩), .pointer (some ⟨g9, 0, none⟩), .pointer (some ⟨g14, 0, none⟩), .pointer (some ⟨gq17s0, 0, none⟩), .pointer (some ⟨gjq25_2_0, 0, none⟩), undef, undef, undef, .pointer (some ⟨w.heap.size, 8, none⟩), .agg Z1, .pointer (some ⟨g6, 8, none⟩), .agg Z2, .agg NN2, .agg NN5, .pointer (some ⟨w.heap.size, 12, none⟩), .agg T1, .pointer (some ⟨g6, 12, none⟩), .agg T2, .agg NN6, .agg NN8, .pointer (some ⟨w.heap.size, 0, none⟩), .agg X1, .pointer (some ⟨g6, 4, none⟩), .agg Y2, .agg NN10, .pointer (some ⟨w.heap.size, 4, none⟩), .agg Y1, .pointer (some ⟨g6, 0, none⟩), .agg X2, undef, undef, undef, undef, undef, undef, undef, undef, undef, undef, undef, undef, undef, undef, undef, undef, undef, undef, undef, undef, undef, undef, undef, undef, undef, undef, undef, undef, undef, undef, undef, undef], defers := [] } ∧ Kt w [(g14, NN2, 36), (g9, ZR1, 103), (g6, PB, 103), (w.heap.size, PA, 103), (gq17s0, NN8, 36)] W ∧ Kt w [(gjq25_2_0, NN4, 36)] W ∧ w.heap.size ≤ gjq25_2_0 ∧ gjq25_2_0 ≠ g14 ∧ gjq25_2_0 ≠ g9 ∧ gjq25_2_0 ≠ g6 ∧ gjq25_2_0 ≠ w.heap.size ∧ gjq25_2_0 ≠ gq17s0) ?_ ?_
    · rintro a wq25x23 ⟨gjq25_2_0, rfl, Hq25x24, Eq25x25, fJq25_2_0, fJq25_2_1, fJq25_2_2, fJq25_2_3, fJq25_2_4, fJq25_2_5⟩
      refine rdy [9] (rcl (some 32) 130 #[.tmp 29, .tmp 31] #[36, 36] #[.agg Y1, .agg X2] en40 _ (HC13.out _) ?_ ReadyF.nil)
      rintro v wq25x26 ⟨he, hb⟩
      cases he
      have Hq25x27 := Hq25x24.below hb
      have Eq25x28 := Eq25x25.below hb
      clear hb
      refine ⟨Hq25x27, ?_⟩
      simp only [Act.put, sT, sS, sZ]
      exact F_to (by kernel_rfl) (by kernel_rfl) (Jq25_1 _ _ ⟨gjq25_2_0, rfl, Hq25x27, Eq25x28, by omega, by omega, by omega, by omega, by omega, by omega⟩)
    intro Jq25_2
    refine tkG 0 (some 23) (.fieldAddr 103 (.tmp 2) 0) none (.pointer (some ⟨w.heap.size, 0, none⟩)) (fun o ho w2 hw => exec_field 103 (.tmp 2) 0 ho _ _ rfl w2 (fa66_0 (w.heap.size) w2)) HDq25x1 ?_
    simp only [Act.put, sT, sS, sZ]
    refine tkG 1 (some 24) (.load 36 (.tmp 23)) none (.agg X1) (fun o ho w2 hw => exec_load_of _ 36 (.tmp 23) ho ⟨w.heap.size, 0, none⟩ rfl _ (load_part (hw.get (w.heap.size) PA 103 (by simp)) IX1 0 SPA_0)) HDq25x1 ?_
    simp only [Act.put, sT, sS, sZ]
    refine tkG 2 (some 25) (.fieldAddr 103 (.tmp 3) 1) none (.pointer (some ⟨g6, 4, none⟩)) (fun o ho w2 hw => exec_field 103 (.tmp 3) 1 ho _ _ rfl w2 (fa66_1 (g6) w2)) HDq25x1 ?_
    simp only [Act.put, sT, sS, sZ]
    refine tkG 3 (some 26) (.load 36 (.tmp 25)) none (.agg Y2) (fun o ho w2 hw => exec_load_of _ 36 (.tmp 25) ho ⟨g6, 4, none⟩ rfl _ (load_part (hw.get (g6) PB 103 (by simp)) IY2 4 SPB_4)) HDq25x1 ?_
    simp only [Act.put, sT, sS, sZ]
    refine tkG 5 (some 28) (.fieldAddr 103 (.tmp 2) 1) none (.pointer (some ⟨w.heap.size, 4, none⟩)) (fun o ho w2 hw => exec_field 103 (.tmp 2) 1 ho _ _ rfl w2 (fa66_1 (w.heap.size) w2)) HDq25x1 ?_
    simp only [Act.put, sT, sS, sZ]
    refine tkG 6 (some 29) (.load 36 (.tmp 28)) none (.agg Y1) (fun o ho w2 hw => exec_load_of _ 36 (.tmp 28) ho ⟨w.heap.size, 4, none⟩ rfl _ (load_part (hw.get (w.heap.size) PA 103 (by simp)) IY1 4 SPA_4)) HDq25x1 ?_
    simp only [Act.put, sT, sS, sZ]
    refine tkG 7 (some 30) (.fieldAddr 103 (.tmp 3) 0) none (.pointer (some ⟨g6, 0, none⟩)) (fun o ho w2 hw => exec_field 103 (.tmp 3) 0 ho _ _ rfl w2 (fa66_0 (g6) w2)) HDq25x1 ?_
    simp only [Act.put, sT, sS, sZ]
    refine tkG 8 (some 31) (.load 36 (.tmp 30)) none (.agg X2) (fun o ho w2 hw => exec_load_of _ 36 (.tmp 30) ho ⟨g6, 0, none⟩ rfl _ (load_part (hw.get (g6) PB 103 (by simp)) IX2 0 SPB_0)) HDq25x1 ?_
    simp only [Act.put, sT, sS, sZ]
    refine rdy [4, 11] (rcl (some 27) 130 #[.tmp 24, .tmp 26] #[36, 36] #[.agg X1, .agg Y2] en40 _ (HC11.out _) ?_ (ral 7 36 HZ24 (HDq25x1.alloc _) ?_ ReadyF.nil))
    · rintro v wq25x29 ⟨he, hb⟩
      cases he
      have Hq25x30 := HDq25x1.below hb
      clear hb
      refine ⟨Hq25x30, ?_⟩
      simp only [Act.put, sT, sS, sZ]
      refine rdy [9, 11] (rcl (some 32) 130 #[.tmp 29, .tmp 31] #[36, 36] #[.agg Y1, .agg X2] en40 _ (HC13.out _) ?_ (ral 7 36 HZ24 (Hq25x30.alloc _) ?_ ReadyF.nil))
      · rintro v wq25x31 ⟨he, hb⟩
        cases he
        have Hq25x32 := Hq25x30.below hb
        clear hb
        refine ⟨Hq25x32, ?_⟩
        simp only [Act.put, sT, sS, sZ]
        refine rdy [10, 11] (rcl (some 33) 131 #[.tmp 27, .tmp 32] #[36, 36] #[.agg NN10, .agg NN12] en41 _ (HC15.out _) ?_ (ral 7 36 HZ24 (Hq25x32.alloc _) ?_ ReadyF.nil))
        · rintro v wq25x33 ⟨he, hb⟩
          cases he
          have Hq25x34 := Hq25x32.below hb
          clear hb
          refine ⟨Hq25x34, ?_⟩
          simp only [Act.put, sT, sS, sZ]
          refine rdy [11] (ral 7 36 HZ24 (Hq25x34.alloc _) ?_ ReadyF.nil)
          have l0wq25x35 := Hq25x34.lt (g14) NN2 36 (by simp)
          have l1wq25x35 := Hq25x34.lt (g9) ZR1 103 (by simp)
          have l2wq25x35 := Hq25x34.lt (g6) PB 103 (by simp)
          have l3wq25x35 := Hq25x34.lt (w.heap.size) PA 103 (by simp)
          have l4wq25x35 := Hq25x34.lt (gq17s0) NN8 36 (by simp)
          have bwq25x35 := Hq25x34.1.size
          have Hq25x36 := Hq25x34.alloc (.cells NN4 36)
          have Eq25x37 := (Hq25x34.sub (m := []) (fun p hp => by cases hp)).new NN4 36
          simp only [Act.put, sT, sS, sZ]
          obtain ⟨wq25x35, hwq25x35⟩ : ∃ W, W = wq25x33.alloc (.cells NN4 36) := ⟨_, rfl⟩
          rw [← hwq25x35] at Hq25x36 Eq25x37 ⊢
          clear hwq25x35
          exact F_to (by kernel_rfl) (by kernel_rfl) (Jq25_0 _ _ ⟨wq25x33.heap.size, rfl, Hq25x36, Eq25x37, by omega, by omega, by omega, by omega, by omega, by omega⟩)
        · have l0wq25x38 := Hq25x32.lt (g14) NN2 36 (by simp)
          have l1wq25x38 := Hq25x32.lt (g9) ZR1 103 (by simp)
          have l2wq25x38 := Hq25x32.lt (g6) PB 103 (by simp)
          have l3wq25x38 := Hq25x32.lt (w.heap.size) PA 103 (by simp)
          have l4wq25x38 := Hq25x32.lt (gq17s0) NN8 36 (by simp)
          have bwq25x38 := Hq25x32.1.size
          have Hq25x39 := Hq25x32.alloc (.cells NN4 36)
          have Eq25x40 := (Hq25x32.sub (m := []) (fun p hp => by cases hp)).new NN4 36
          simp only [Act.put, sT, sS, sZ]
          obtain ⟨wq25x38, hwq25x38⟩ : ∃ W, W = wq25x31.alloc (.cells NN4 36) := ⟨_, rfl⟩
          rw [← hwq25x38] at Hq25x39 Eq25x40 ⊢
          clear hwq25x38
          exact F_to (by kernel_rfl) (by kernel_rfl) (Jq25_1 _ _ ⟨wq25x31.heap.size, rfl, Hq25x39, Eq25x40, by omega, by omega, by omega, by omega, by omega, by omega⟩)
      · have l0wq25x41 := Hq25x30.lt (g14) NN2 36 (by simp)
        have l1wq25x41 := Hq25x30.lt (g9) ZR1 103 (by simp)
        have l2wq25x41 := Hq25x30.lt (g6) PB 103 (by simp)
        have l3wq25x41 := Hq25x30.lt (w.heap.size) PA 103 (by simp)
        have l4wq25x41 := Hq25x30.lt (gq17s0) NN8 36 (by simp)
        have bwq25x41 := Hq25x30.1.size
        have Hq25x42 := Hq25x30.alloc (.cells NN4 36)
        have Eq25x43 := (Hq25x30.sub (m := []) (fun p hp => by cases hp)).new NN4 36
        simp only [Act.put, sT, sS, sZ]
        obtain ⟨wq25x41, hwq25x41⟩ : ∃ W, W = wq25x29.alloc (.cells NN4 36) := ⟨_, rfl⟩
        rw [← hwq25x41] at Hq25x42 Eq25x43 ⊢
        clear hwq25x41
        exact F_to (by kernel_rfl) (by kernel_rfl) (Jq25_2 _ _ ⟨wq25x29.heap.size, rfl, Hq25x42, Eq25x43, by omega, by omega, by omega, by omega, by omega, by omega⟩)
    · have l0wq25x44 := HDq25x1.lt (g14) NN2 36 (by simp)
      have l1wq25x44 := HDq25x1.lt (g9) ZR1 103 (by simp)
      have l2wq25x44 := HDq25x1.lt (g6) PB 103 (by simp)
      have l3wq25x44 := HDq25x1.lt (w.heap.size) PA 103 (by simp)
      have l4wq25x44 := HDq25x1.lt (gq17s0) NN8 36 (by simp)
      have bwq25x44 := HDq25x1.1.size
      have Hq25x45 := HDq25x1.alloc (.cells NN4 36)
      have Eq25x46 := (HDq25x1.sub (m := []) (fun p hp => by cases hp)).new NN4 36
      simp only [Act.put, sT, sS, sZ]
      obtain ⟨wq25x44, hwq25x44⟩ : ∃ W, W = wdq25x2.alloc (.cells NN4 36) := ⟨_, rfl⟩
      rw [← hwq25x44] at Hq25x45 Eq25x46 ⊢
      clear hwq25x44
      refine rdy [4] (rcl (some 27) 130 #[.tmp 24, .tmp 26] #[36, 36] #[.agg X1, .agg Y2] en40 _ (HC11.out _) ?_ ReadyF.nil)
      rintro v wq25x47 ⟨he, hb⟩
      cases he
      have Hq25x48 := Hq25x45.below hb
      have Eq25x49 := Eq25x46.below hb
      clear hb
      refine ⟨Hq25x48, ?_⟩
      simp only [Act.put, sT, sS, sZ]
      exact F_to (by kernel_rfl) (by kernel_rfl) (Jq25_2 _ _ ⟨wdq25x2.heap.size, rfl, Hq25x48, Eq25x49, by omega, by omega, by omega, by omega, by omega, by omega⟩)
  rintro a' w26 ⟨gq25s0, rfl, hk, e28, e29, e30, e31, e32, e33⟩
  have HS27 := Lib.hid hk
  clear hk HS19
  go_upto_region 4 with fail
  refine wp_cut (fun a' W' => ∃ gq34s0, a' = { tmps := #[.agg PA, .agg PB, .pointer (some ⟨w.heap.size, 0, none⟩), .pointer (some ⟨g6, 0, none⟩), .pointer (some ⟨g9, 0, none⟩), .pointer (some ⟨g14, 0, none⟩), .pointer (some ⟨gq17s0, 0, none⟩), .pointer (some ⟨gq25s0, 0, none⟩), .pointer (some ⟨gq34s0, 0, none⟩), undef, undef, .pointer (some ⟨w.heap.size, 8, none⟩), .agg Z1, .pointer (some ⟨g6, 8, none⟩), .agg Z2, .agg NN2, .agg NN5, .pointer (some ⟨w.heap.size, 12, none⟩), .agg T1, .pointer (some ⟨g6, 12, none⟩), .agg T2, .agg NN6, .agg NN8, .pointer (some ⟨w.heap.size, 0, none⟩), .agg X1, .pointer (some ⟨g6, 4, none⟩), .agg Y2, .agg NN10, .pointer (some ⟨w.heap.size, 4, none⟩), .agg Y1, .pointer (some ⟨g6, 0, none⟩), .agg X2, .agg NN12, .agg NN14, .pointer (some ⟨w.heap.size, 4, none⟩), .agg Y1, .pointer (some ⟨g6, 4, none⟩), .agg Y2, .agg NN16, .pointer (some ⟨w.heap.size, 0, none⟩), .agg X1, .pointer (some ⟨g6, 0, none⟩), .agg X2, .agg NN18, .agg NN20, undef, undef, undef, undef, undef, undef, undef, undef, undef, undef, undef, undef, undef, undef, undef, undef, undef, undef, undef], defers := [] } ∧ Kt w [(g14, NN2, 36), (g9, ZR1, 103), (gq17s0, NN8, 36), (gq25s0, NN14, 36), (gq34s0, NN20, 36)] W' ∧ w.heap.size ≤ gq34s0 ∧ gq34s0 ≠ g14 ∧ gq34s0 ≠ g9 ∧ gq34s0 ≠ g6 ∧ gq34s0 ≠ w.heap.size ∧ gq34s0 ≠ gq17s0 ∧ gq34s0 ≠ gq25s0) ?_ ?_
  · refine wp_region_any (by kernel_rfl) ?_
    change wpAny _ _ _ _ _ _ _ (World.drew _)
    have HDq34x1 := HS27.out.drew
    clear HS27
    generalize w26.drew = wdq34x2 at *
    refine any_of_F (S := Kt w [(g14, NN2, 36), (g9, ZR1, 103), (g6, PB, 103), (w.heap.size, PA, 103), (gq17s0, NN8, 36), (gq25s0, NN14, 36)]) (f := 1000) _ _ _ _ ?_
    refine F_have 1 #[true, true, true, true, true, true, true, true, true, true, true, true, false] (fun a W => ∃ gjq34_0_0, a = { tmps := #[.agg PA, .agg PB, .pointer (some ⟨w.heap.size, 0, none⟩), .pointer (some ⟨g6, 0, none⟩), .pointer (some ⟨g9, 0, none⟩), .pointer (some ⟨g14, 0, none⟩), .pointer (some ⟨gq17s0, 0, none⟩), .pointer (some ⟨gq25s0, 0, none⟩), .pointer (some ⟨gjq34_0_0, 0, none⟩), undef, undef, .pointer (some ⟨w.heap.size, 8, none⟩), .agg Z1, .pointer (some ⟨g6, 8, none⟩), .agg Z2, .agg NN2, .agg NN5, .pointer (some ⟨w.heap.size, 12, none⟩), .agg T1, .pointer (some ⟨g6, 12, none⟩), .agg T2, .agg NN6, .agg NN8, .pointer (some ⟨w.heap.size, 0, none⟩), .agg X1, .pointer (some ⟨g6, 4, none⟩), .agg Y2, .agg NN10, .pointer (some ⟨w.heap.size, 4, none⟩), .agg Y1, .pointer (some ⟨g6, 0, none⟩), .agg X2, .agg NN12, .agg NN14, .pointer (some ⟨w.heap.size, 4, none⟩), .agg Y1, .pointer (some ⟨g6, 4, none⟩), .agg Y2, .agg NN16, .pointer (some ⟨w.heap.size, 0, none⟩), .agg X1, .pointer (some ⟨g6, 0, none⟩), .agg X2, .agg NN18, .agg NN20, undef, undef, undef, undef, undef, undef, undef, undef, undef, undef, undef, undef, undef, undef, undef, undef, undef, undef, undef], defers := [] } ∧ Kt w [(g14, NN2, 36), (g9, ZR1, 103), (g6, PB, 103), (w.heap.size, PA, 103), (gq17s0, NN8, 36), (gq25s0, NN14, 36)] W ∧ Kt w [(gjq34_0_0, NN4, 36)] W ∧ w.heap.size ≤ gjq34_0_0 ∧ gjq34_0_0 ≠ g14 ∧ gjq34_0_0 ≠ g9 ∧ gjq34_0_0 ≠ g6 ∧ gjq34_0_0 ≠ w.heap.size ∧ gjq34_0_0 ≠ gq17s0 ∧ gjq34_0_0 ≠ gq25s0) ?_ ?_
    · rintro a wq34x11 ⟨gjq34_0_0, rfl, Hq34x12, Eq34x13, fJq34_0_0, fJq34_0_1, fJq34_0_2, fJq34_0_3, fJq34_0_4, fJq34_0_5, fJq34_0_6⟩
      refine rdy [12] (ReadyF.op0 (.store 36 (.tmp 8) (.tmp 44)) rfl (fun o ho => exec_store24 wq34x11 (.tmp 8) (.tmp 44) ho (gjq34_0_0) rfl NN20 INN20 rfl NN4 36 (Eq34x13.get (gjq34_0_0) NN4 36 (by simp)) SZNN4) (Hq34x12.set (gjq34_0_0) NN20 NN4 36 (Eq34x13.get (gjq34_0_0) NN4 36 (by simp)) (by omega) (fun p hp => by simp at hp; rcases hp with rfl | rfl | rfl | rfl | rfl | rfl <;> exact .inr ⟨by simp, by simp only; omega⟩)) ?_ ReadyF.nil)
      have Hq34x15 := Hq34x12.set (gjq34_0_0) NN20 NN4 36 (Eq34x13.get (gjq34_0_0) NN4 36 (by simp)) (by omega) (m := [(g14, NN2, 36), (g9, ZR1, 103), (g6, PB, 103), (w.heap.size, PA, 103), (gq17s0, NN8, 36), (gq25s0, NN14, 36)]) (fun p hp => by simp at hp; rcases hp with rfl | rfl | rfl | rfl | rfl | rfl <;> exact .inr ⟨by simp, by simp only; omega⟩)
      have Eq34x16 := Eq34x13.set (gjq34_0_0) NN20 NN4 36 (Eq34x13.get (gjq34_0_0) NN4 36 (by simp)) (by omega) (m := [(gjq34_0_0, NN20, 36)]) (fun p hp => by simp at hp; subst hp; first | exact .inl rfl | exact .inr ⟨by simp, by simp only; omega⟩)
      generalize wq34x11.setRow (gjq34_0_0) NN20 = wq34x14 at *
      refine AnyF.done (by kernel_rfl) ?_ _
      refine nrm_intro ⟨gjq34_0_0, rfl, (Hq34x15.app Eq34x16).sub (fun p hp => by simp at hp; rcases hp with rfl | rfl | rfl | rfl | rfl <;> simp), by omega, by omega, by omega, by omega, by omega, by omega, by omega⟩
    intro Jq34_0
    refine F_have 2 #[true, true, true, true, true, true, true, true, true, true, false, true, false] (fun a W => ∃ gjq34_1_0, a = { tmps := #[.agg PA, .agg PB, .pointer (some ⟨w.heap.size, 0, none⟩), .pointer (some ⟨g6, 0, none⟩), .pointer (some ⟨g9, 0, none⟩), .pointer (some ⟨g14, 0, none⟩), .pointer (some ⟨gq17s0, 0, none⟩), .pointer (some ⟨gq25s0, 0, none⟩), .pointer (some ⟨gjq34_1_0, 0, none⟩), undef, undef, .pointer (some ⟨w.heap.size, 8, none⟩), .agg Z1, .pointer (some ⟨g6, 8, none⟩), .agg Z2, .agg NN2, .agg NN5, .pointer (some ⟨w.heap.size, 12, none⟩), .agg T1, .pointer (some ⟨g6, 12, none⟩), .agg T2, .agg NN6, .agg NN8, .pointer (some ⟨w.heap.size, 0, none⟩), .agg X1, .pointer (some ⟨g6, 4, none⟩), .agg Y2, .agg NN10, .pointer (some ⟨w.heap.size, 4, none⟩), .agg Y1, .pointer (some ⟨g6, 0, none⟩), .agg X2, .agg NN12, .agg NN14, .pointer (some ⟨w.heap.size, 4, none⟩), .agg Y1, .pointer (some ⟨g6, 4, none⟩), .agg Y2, .agg NN16, .pointer (some ⟨w.heap.size, 0, none⟩), .agg X1, .pointer (some ⟨g6, 0, none⟩), .agg X2, .agg NN18, undef, undef, undef, undef, undef, undef, undef, undef, undef, undef, undef, undef, undef, undef, undef, undef, undef, undef, undef, undef], defers := [] } ∧ Kt w [(g14, NN2, 36), (g9, ZR1, 103), (g6, PB, 103), (w.heap.size, PA, 103), (gq17s0, NN8, 36), (gq25s0, NN14, 36)] W ∧ Kt w [(gjq34_1_0, NN4, 36)] W ∧ w.heap.size ≤ gjq34_1_0 ∧ gjq34_1_0 ≠ g14 ∧ gjq34_1_0 ≠ g9 ∧ gjq34_1_0 ≠ g6 ∧ gjq34_1_0 ≠ w.heap.size ∧ gjq34_1_0 ≠ gq17s0 ∧ gjq34_1_0 ≠ gq25s0) ?_ ?_
    · rintro a wq34x17 ⟨gjq34_1_0, rfl, Hq34x18, Eq34x19, fJq34_1_0, fJq34_1_1, fJq34_1_2, fJq34_1_3, fJq34_1_4, fJq34_1_5, fJq34_1_6⟩
      refine rdy [10] (rcl (some 44) 131 #[.tmp 38, .tmp 43] #[36, 36] #[.agg NN16, .agg NN18] en41 _ (HC21.out _) ?_ ReadyF.nil)
      rintro v wq34x20 ⟨he, hb⟩
      cases he
      have Hq34x21 := Hq34x18.below hb
      have Eq34x22 := Eq34x19.below hb
      clear hb
      refine ⟨Hq34x21, ?_⟩
      simp only [Act.put, sT, sS, sZ]
      exact F_to (by kernel_rfl) (by kernel_rfl) (Jq34_0 _ _ ⟨gjq34_1_0, rfl, Hq34x21, Eq34x22, by omega, by omega, by omega, by omega, by omega, by omega, by omega⟩)
    intro Jq34_1
    refine F_have 3 #[true, true, true, true, true, true, true, true, true, false, false, true, false] (fun a W => ∃ gjq34_2_0, a = { tmps := #[.agg PA, .agg PB, .pointer (some ⟨w.heap.size, 0, none⟩), .pointer (some ⟨g6, 0, none⟩), .pointer (some ⟨g9, 0, none⟩), .pointer (some ⟨g14, 0, none⟩), .pointer (some ⟨gq17s0, 0, none⟩), .pointer (some ⟨gq25s0, 0, none⟩), .pointer (some ⟨gjq34_2_0, 0, none⟩), undef, undef, .pointer (some ⟨w.heap.size, 8, none⟩), .agg Z1, .pointer (some ⟨g6, 8, none⟩), .agg Z2, .agg NN2, .agg NN5, .pointer (some ⟨w.heap.size, 12, none⟩), .agg T1, .pointer (some ⟨g6, 12, none⟩), .agg T2, .agg NN6, .agg NN8, .pointer (some ⟨w.heap.size, 0, none⟩), .agg X1, .pointer (some ⟨g6, 4, none⟩), .agg Y2, .agg NN10, .pointer (some ⟨w.heap.size, 4, none⟩), .agg Y1, .pointer (some ⟨g6, 0, none⟩), .agg X2, .agg NN12, .agg NN14, .pointer (some ⟨w.heap.size, 4, none⟩), .agg Y1, .pointer (some ⟨g6, 4, none⟩), .agg Y2, .agg NN16, .pointer (some ⟨w.heap.size, 0, none⟩), .agg X1, .pointer (some ⟨g6, 0, none⟩), .agg X2, undef, undef, undef, undef, undef, undef, undef, undef, undef, undef, undef, undef, undef, undef, undef, undef, undef, undef, undef, undef, undef], defers := [] } ∧ Kt w [(g14, NN2, 36), (g9, ZR1, 103), (g6, PB, 103), (w.heap.size, PA, 103), (gq17s0, NN8, 36), (gq25s0, NN14, 36)] W ∧ Kt w [(gjq34_2_0, NN4, 36)] W ∧ w.heap.size ≤ gjq34_2_0 ∧ gjq34_2_0 ≠ g14 ∧ gjq34_2_0 ≠ g9 ∧ gjq34_2_0 ≠ g6 ∧ gjq34_2_0 ≠ w.heap.size ∧ gjq34_2_0 ≠ gq17s0 ∧ gjq34_2_0 ≠ gq25s0) ?_ ?_
    · rintro a wq34x23 ⟨gjq34_2_0, rfl, Hq34x24, Eq34x25, fJq34_2_0, fJq34_2_1, fJq34_2_2, fJq34_2_3, fJq34_2_4, fJq34_2_5, fJq34_2_6⟩
      refine rdy [9] (rcl (some 43) 130 #[.tmp 40, .tmp 42] #[36, 36] #[.agg X1, .agg X2] en40 _ (HC19.out _) ?_ ReadyF.nil)
      rintro v wq34x26 ⟨he, hb⟩
      cases he
      have Hq34x27 := Hq34x24.below hb
      have Eq34x28 := Eq34x25.below hb
      clear hb
      refine ⟨Hq34x27, ?_⟩
      simp only [Act.put, sT, sS, sZ]
      exact F_to (by kernel_rfl) (by kernel_rfl) (Jq34_1 _ _ ⟨gjq34_2_0, rfl, Hq34x27, Eq34x28, by omega, by omega, by omega, by omega, by omega, by omega, by omega⟩)
    intro Jq34_2
    refine tkG 0 (some 34) (.fieldAddr 103 (.tmp 2) 1) none (.pointer (some ⟨w.heap.size, 4, none⟩)) (fun o ho w2 hw => exec_field 103 (.tmp 2) 1 ho _ _ rfl w2 (fa66_1 (w.heap.size) w2)) HDq34x1 ?_
    simp only [Act.put, sT, sS, sZ]
    refine tkG 1 (some 35) (.load 36 (.tmp 34)) none (.agg Y1) (fun o ho w2 hw => exec_load_of _ 36 (.tmp 34) ho ⟨w.heap.size, 4, none⟩ rfl _ (load_part (hw.get (w.heap.size) PA 103 (by simp)) IY1 4 SPA_4)) HDq34x1 ?_
    simp only [Act.put, sT, sS, sZ]
    refine tkG 2 (some 36) (.fieldAddr 103 (.tmp 3) 1) none (.pointer (some ⟨g6, 4, none⟩)) (fun o ho w2 hw => exec_field 103 (.tmp 3) 1 ho _ _ rfl w2 (fa66_1 (g6) w2)) HDq34x1 ?_
    simp only [Act.put, sT, sS, sZ]
    refine tkG 3 (some 37) (.load 36 (.tmp 36)) none (.agg Y2) (fun o ho w2 hw => exec_load_of _ 36 (.tmp 36) ho ⟨g6, 4, none⟩ rfl _ (load_part (hw.get (g6) PB 103 (by simp)) IY2 4 SPB_4)) HDq34x1 ?_
    simp only [Act.put, sT, sS, sZ]
    refine tkG 5 (some 39) (.fieldAddr 103 (.tmp 2) 0) none (.pointer (some ⟨w.heap.size, 0, none⟩)) (fun o ho w2 hw => exec_field 103 (.tmp 2) 0 ho _ _ rfl w2 (fa66_0 (w.heap.size) w2)) HDq34x1 ?_
    simp only [Act.put, sT, sS, sZ]
    refine tkG 6 (some 40) (.load 36 (.tmp 39)) none (.agg X1) (fun o ho w2 hw => exec_load_of _ 36 (.tmp 39) ho ⟨w.heap.size, 0, none⟩ rfl _ (load_part (hw.get (w.heap.size) PA 103 (by simp)) IX1 0 SPA_0)) HDq34x1 ?_
    simp only [Act.put, sT, sS, sZ]
    refine tkG 7 (some 41) (.fieldAddr 103 (.tmp 3) 0) none (.pointer (some ⟨g6, 0, none⟩)) (fun o ho w2 hw => exec_field 103 (.tmp 3) 0 ho _ _ rfl w2 (fa66_0 (g6) w2)) HDq34x1 ?_
    simp only [Act.put, sT, sS, sZ]
    refine tkG 8 (some 42) (.load 36 (.tmp 41)) none (.agg X2) (fun o ho w2 hw => exec_load_of _ 36 (.tmp 41) ho ⟨g6, 0, none⟩ rfl _ (load_part (hw.get (g6) PB 103 (by simp)) IX2 0 SPB_0)) HDq34x1 ?_
    simp only [Act.put, sT, sS, sZ]
    refine rdy [4, 11] (rcl (some 38) 130 #[.tmp 35, .tmp 37] #[36, 36] #[.agg Y1, .agg Y2] en40 _ (HC17.out _) ?_ (ral 8 36 HZ24 (HDq34x1.alloc _) ?_ ReadyF.nil))
    · rintro v wq34x29 ⟨he, hb⟩
      cases he
      have Hq34x30 := HDq34x1.below hb
      clear hb
      refine ⟨Hq34x30, ?_⟩
      simp only [Act.put, sT, sS, sZ]
      refine rdy [9, 11] (rcl (some 43) 130 #[.tmp 40, .tmp 42] #[36, 36] #[.agg X1, .agg X2] en40 _ (HC19.out _) ?_ (ral 8 36 HZ24 (Hq34x30.alloc _) ?_ ReadyF.nil))
      · rintro v wq34x31 ⟨he, hb⟩
        cases he
        have Hq34x32 := Hq34x30.below hb
        clear hb
        refine ⟨Hq34x32, ?_⟩
        simp only [Act.put, sT, sS, sZ]
        refine rdy [10, 11] (rcl (some 44) 131 #[.tmp 38, .tmp 43] #[36, 36] #[.agg NN16, .agg NN18] en41 _ (HC21.out _) ?_ (ral 8 36 HZ24 (Hq34x32.alloc _) ?_ ReadyF.nil))
        · rintro v wq34x33 ⟨he, hb⟩
          cases he
          have Hq34x34 := Hq34x32.below hb
          clear hb
          refine ⟨Hq34x34, ?_⟩
          simp only [Act.put, sT, sS, sZ]
          refine rdy [11] (ral 8 36 HZ24 (Hq34x34.alloc _) ?_ ReadyF.nil)
          have l0wq34x35 := Hq34x34.lt (g14) NN2 36 (by simp)
          have l1wq34x35 := Hq34x34.lt (g9) ZR1 103 (by simp)
          have l2wq34x35 := Hq34x34.lt (g6) PB 103 (by simp)
          have l3wq34x35 := Hq34x34.lt (w.heap.size) PA 103 (by simp)
          have l4wq34x35 := Hq34x34.lt (gq17s0) NN8 36 (by simp)
          have l5wq34x35 := Hq34x34.lt (gq25s0) NN14 36 (by simp)
          have bwq34x35 := Hq34x34.1.size
          have Hq34x36 := Hq34x34.alloc (.cells NN4 36)
          have Eq34x37 := (Hq34x34.sub (m := []) (fun p hp => by cases hp)).new NN4 36
          simp only [Act.put, sT, sS, sZ]
          obtain ⟨wq34x35, hwq34x35⟩ : ∃ W, W = wq34x33.alloc (.cells NN4 36) := ⟨_, rfl⟩
          rw [← hwq34x35] at Hq34x36 Eq34x37 ⊢
          clear hwq34x35
          exact F_to (by kernel_rfl) (by kernel_rfl) (Jq34_0 _ _ ⟨wq34x33.heap.size, rfl, Hq34x36, Eq34x37, by omega, by omega, by omega, by omega, by omega, by omega, by omega⟩)
        · have l0wq34x38 := Hq34x32.lt (g14) NN2 36 (by simp)
          have l1wq34x38 := Hq34x32.lt (g9) ZR1 103 (by simp)
          have l2wq34x38 := Hq34x32.lt (g6) PB 103 (by simp)
          have l3wq34x38 := Hq34x32.lt (w.heap.size) PA 103 (by simp)
          have l4wq34x38 := Hq34x32.lt (gq17s0) NN8 36 (by simp)
          have l5wq34x38 := Hq34x32.lt (gq25s0) NN14 36 (by simp)
          have bwq34x38 := Hq34x32.1.size
          have Hq34x39 := Hq34x32.alloc (.cells NN4 36)
          have Eq34x40 := (Hq34x32.sub (m := []) (fun p hp => by cases hp)).new NN4 36
          simp only [Act.put, sT, sS, sZ]
          obtain ⟨wq34x38, hwq34x38⟩ : ∃ W, W = wq34x31.alloc (.cells NN4 36) := ⟨_, rfl⟩
          rw [← hwq34x38] at Hq34x39 Eq34x40 ⊢
          clear hwq34x38
          exact F_to (by kernel_rfl) (by kernel_rfl) (Jq34_1 _ _ ⟨wq34x31.heap.size, rfl, Hq34x39, Eq34x40, by omega, by omega, by omega, by omega, by omega, by omega, by omega⟩)
      · have l0wq34x41 := Hq34x30.lt (g14) NN2 36 (by simp)
        have l1wq34x41 := Hq34x30.lt (g9) ZR1 103 (by simp)
        have l2wq34x41 := Hq34x30.lt (g6) PB 103 (by simp)
        have l3wq34x41 := Hq34x30.lt (w.heap.size) PA 103 (by simp)
        have l4wq34x41 := Hq34x30.lt (gq17s0) NN8 36 (by simp)
        have l5wq34x41 := Hq34x30.lt (gq25s0) NN14 36 (by simp)
        have bwq34x41 := Hq34x30.1.size
        have Hq34x42 := Hq34x30.alloc (.cells NN4 36)
        have Eq34x43 := (Hq34x30.sub (m := []) (fun p hp => by cases hp)).new NN4 36
        simp only [Act.put, sT, sS, sZ]
        obtain ⟨wq34x41, hwq34x41⟩ : ∃ W, W = wq34x29.alloc (.cells NN4 36) := ⟨_, rfl⟩
        rw [← hwq34x41] at Hq34x42 Eq34x43 ⊢
        clear hwq34x41
        exact F_to (by kernel_rfl) (by kernel_rfl) (Jq34_2 _ _ ⟨wq34x29.heap.size, rfl, Hq34x42, Eq34x43, by omega, by omega, by omega, by omega, by omega, by omega, by omega⟩)
    · have l0wq34x44 := HDq34x1.lt (g14) NN2 36 (by simp)
      have l1wq34x44 := HDq34x1.lt (g9) ZR1 103 (by simp)
      have l2wq34x44 := HDq34x1.lt (g6) PB 103 (by simp)
      have l3wq34x44 := HDq34x1.lt (w.heap.size) PA 103 (by simp)
      have l4wq34x44 := HDq34x1.lt (gq17s0) NN8 36 (by simp)
      have l5wq34x44 := HDq34x1.lt (gq25s0) NN14 36 (by simp)
      have bwq34x44 := HDq34x1.1.size
      have Hq34x45 := HDq34x1.alloc (.cells NN4 36)
      have Eq34x46 := (HDq34x1.sub (m := []) (fun p hp => by cases hp)).new NN4 36
      simp only [Act.put, sT, sS, sZ]
      obtain ⟨wq34x44, hwq34x44⟩ : ∃ W, W = wdq34x2.alloc (.cells NN4 36) := ⟨_, rfl⟩
      rw [← hwq34x44] at Hq34x45 Eq34x46 ⊢
      clear hwq34x44
      refine rdy [4] (rcl (some 38) 130 #[.tmp 35, .tmp 37] #[36, 36] #[.agg Y1, .agg Y2] en40 _ (HC17.out _) ?_ ReadyF.nil)
      rintro v wq34x47 ⟨he, hb⟩
      cases he
      have Hq34x48 := Hq34x45.below hb
      have Eq34x49 := Eq34x46.below hb
      clear hb
      refine ⟨Hq34x48, ?_⟩
      simp only [Act.put, sT, sS, sZ]
      exact F_to (by kernel_rfl) (by kernel_rfl) (Jq34_2 _ _ ⟨wdq34x2.heap.size, rfl, Hq34x48, Eq34x49, by omega, by omega, by omega, by omega, by omega, by omega, by omega⟩)
  rintro a' w35 ⟨gq34s0, rfl, hk, e37, e38, e39, e40, e41, e42, e43⟩
  have HS36 := Lib.hid hk
  clear hk HS27
  go_upto_region 5 with fail
  refine wp_cut (fun a' W' => ∃ gq44s0 gq44s1, a' = { tmps := #[.agg PA, .agg PB, .pointer (some ⟨w.heap.size, 0, none⟩), .pointer (some ⟨g6, 0, none⟩), .pointer (some ⟨g9, 0, none⟩), .pointer (some ⟨g14, 0, none⟩), .pointer (some ⟨gq17s0, 0, none⟩), .pointer (some ⟨gq25s0, 0, none⟩), .pointer (some ⟨gq34s0, 0, none⟩), .pointer (some ⟨gq44s0, 0, none⟩), .pointer (some ⟨gq44s1, 0, none⟩), .pointer (some ⟨w.heap.size, 8, none⟩), .agg Z1, .pointer (some ⟨g6, 8, none⟩), .agg Z2, .agg NN2, .agg NN5, .pointer (some ⟨w.heap.size, 12, none⟩), .agg T1, .pointer (some ⟨g6, 12, none⟩), .agg T2, .agg NN6, .agg NN8, .pointer (some ⟨w.heap.size, 0, none⟩), .agg X1, .pointer (some ⟨g6, 4, none⟩), .agg Y2, .agg NN10, .pointer (some ⟨w.heap.size, 4, none⟩), .agg Y1, .pointer (some ⟨g6, 0, none⟩), .agg X2, .agg NN12, .agg NN14, .pointer (some ⟨w.heap.size, 4, none⟩), .agg Y1, .pointer (some ⟨g6, 4, none⟩), .agg Y2, .agg NN16, .pointer (some ⟨w.heap.size, 0, none⟩), .agg X1, .pointer (some ⟨g6, 0, none⟩), .agg X2, .agg NN18, .agg NN20, .agg NN2, .agg NN8, .agg NN22, .agg NN2, .agg NN8, .agg NN24, undef, undef, undef, undef, undef, undef, undef, undef, undef, undef, undef, undef, undef], defers := [] } ∧ Kt w [(g9, ZR1, 103), (gq25s0, NN14, 36), (gq34s0, NN20, 36), (gq44s0, NN22, 36), (gq44s1, NN24, 36)] W' ∧ w.heap.size ≤ gq44s0 ∧ w.heap.size ≤ gq44s1 ∧ gq44s0 ≠ g14 ∧ gq44s0 ≠ g9 ∧ gq44s0 ≠ gq17s0 ∧ gq44s0 ≠ gq25s0 ∧ gq44s0 ≠ gq34s0 ∧ gq44s1 ≠ g14 ∧ gq44s1 ≠ g9 ∧ gq44s1 ≠ gq17s0 ∧ gq44s1 ≠ gq25s0 ∧ gq44s1 ≠ gq34s0 ∧ gq44s1 ≠ gq44s0) ?_ ?_
  · refine wp_region_any (by kernel_rfl) ?_
    change wpAny _ _ _ _ _ _ _ (World.drew _)
    have HDq44x1 := HS36.out.drew
    clear HS36
    generalize w35.drew = wdq44x2 at *
    refine any_of_F (S := Kt w [(g14, NN2, 36), (g9, ZR1, 103), (gq17s0, NN8, 36), (gq25s0, NN14, 36), (gq34s0, NN20, 36)]) (f := 1000) _ _ _ _ ?_
    refine F_have 2 #[true, true, true, true, true, true, true, true, false, false] (fun a W => ∃ gjq44_0_0 gjq44_0_1, a = { tmps := #[.agg PA, .agg PB, .pointer (some ⟨w.heap.size, 0, none⟩), .pointer (some ⟨g6, 0, none⟩), .pointer (some ⟨g9, 0, none⟩), .pointer (some ⟨g14, 0, none⟩), .pointer (some ⟨gq17s0, 0, none⟩), .pointer (some ⟨gq25s0, 0, none⟩), .pointer (some ⟨gq34s0, 0, none⟩), .pointer (some ⟨gjq44_0_0, 0, none⟩), .pointer (some ⟨gjq44_0_1, 0, none⟩), .pointer (some ⟨w.heap.size, 8, none⟩), .agg Z1, .pointer (some ⟨g6, 8, none⟩), .agg Z2, .agg NN2, .agg NN5, .pointer (some ⟨w.heap.size, 12, none⟩), .agg T1, .pointer (some ⟨g6, 12, none⟩), .agg T2, .agg NN6, .agg NN8, .pointer (some ⟨w.heap.size, 0, none⟩), .agg X1, .pointer (some ⟨g6, 4, none⟩), .agg Y2, .agg NN10, .pointer (some ⟨w.heap.size, 4, none⟩), .agg Y1, .pointer (some ⟨g6, 0, none⟩), .agg X2, .agg NN12, .agg NN14, .pointer (some ⟨w.heap.size, 4, none⟩), .agg Y1, .pointer (some ⟨g6, 4, none⟩), .agg Y2, .agg NN16, .pointer (some ⟨w.heap.size, 0, none⟩), .agg X1, .pointer (some ⟨g6, 0, none⟩), .agg X2, .agg NN18, .agg NN20, .agg NN2, .agg NN8, .agg NN22, .agg NN2, .agg NN8, .agg NN24, undef, undef, undef, undef, undef, undef, undef, undef, undef, undef, undef, undef, undef], defers := [] } ∧ Kt w [(g14, NN2, 36), (g9, ZR1, 103), (gq17s0, NN8, 36), (gq25s0, NN14, 36), (gq34s0, NN20, 36)] W ∧ Kt w [(gjq44_0_0, NN4, 36), (gjq44_0_1, NN4, 36)] W ∧ w.heap.size ≤ gjq44_0_0 ∧ w.heap.size ≤ gjq44_0_1 ∧ gjq44_0_0 ≠ g14 ∧ gjq44_0_0 ≠ g9 ∧ gjq44_0_0 ≠ gq17s0 ∧ gjq44_0_0 ≠ gq25s0 ∧ gjq44_0_0 ≠ gq34s0 ∧ gjq44_0_1 ≠ g14 ∧ gjq44_0_1 ≠ g9 ∧ gjq44_0_1 ≠ gq17s0 ∧ gjq44_0_1 ≠ gq25s0 ∧ gjq44_0_1 ≠ gq34s0 ∧ gjq44_0_1 ≠ gjq44_0_0) ?_ ?_
    · rintro a wq44x11 ⟨gjq44_0_0, gjq44_0_1, rfl, Hq44x12, Eq44x13, fJq44_0_0, fJq44_0_1, fJq44_0_2, fJq44_0_3, fJq44_0_4, fJq44_0_5, fJq44_0_6, fJq44_0_7, fJq44_0_8, fJq44_0_9, fJq44_0_10, fJq44_0_11, fJq44_0_12⟩
      refine rdy [8] (ReadyF.op0 (.store 36 (.tmp 9) (.tmp 47)) rfl (fun o ho => exec_store24 wq44x11 (.tmp 9) (.tmp 47) ho (gjq44_0_0) rfl NN22 INN22 rfl NN4 36 (Eq44x13.get (gjq44_0_0) NN4 36 (by simp)) SZNN4) (Hq44x12.set (gjq44_0_0) NN22 NN4 36 (Eq44x13.get (gjq44_0_0) NN4 36 (by simp)) (by omega) (fun p hp => by simp at hp; rcases hp with rfl | rfl | rfl | rfl | rfl <;> exact .inr ⟨by simp, by simp only; omega⟩)) ?_ ReadyF.nil)
      have Hq44x15 := Hq44x12.set (gjq44_0_0) NN22 NN4 36 (Eq44x13.get (gjq44_0_0) NN4 36 (by simp)) (by omega) (m := [(g14, NN2, 36), (g9, ZR1, 103), (gq17s0, NN8, 36), (gq25s0, NN14, 36), (gq34s0, NN20, 36)]) (fun p hp => by simp at hp; rcases hp with rfl | rfl | rfl | rfl | rfl <;> exact .inr ⟨by simp, by simp only; omega⟩)
      have Eq44x16 := Eq44x13.set (gjq44_0_0) NN22 NN4 36 (Eq44x13.get (gjq44_0_0) NN4 36 (by simp)) (by omega) (m := [(gjq44_0_0, NN22, 36), (gjq44_0_1, NN4, 36)]) (fun p hp => by simp at hp; rcases hp with rfl | rfl <;> first | exact .inl rfl | exact .inr ⟨by simp, by simp only; omega⟩)
      generalize wq44x11.setRow (gjq44_0_0) NN22 = wq44x14 at *
      refine rdy [9] (ReadyF.op0 (.store 36 (.tmp 10) (.tmp 50)) rfl (fun o ho => exec_store24 wq44x14 (.tmp 10) (.tmp 50) ho (gjq44_0_1) rfl NN24 INN24 rfl NN4 36 (Eq44x16.get (gjq44_0_1) NN4 36 (by simp)) SZNN4) (Hq44x15.set (gjq44_0_1) NN24 NN4 36 (Eq44x16.get (gjq44_0_1) NN4 36 (by simp)) (by omega) (fun p hp => by simp at hp; rcases hp with rfl | rfl | rfl | rfl | rfl <;> exact .inr ⟨by simp, by simp only; omega⟩)) ?_ ReadyF.nil)
      have Hq44x18 := Hq44x15.set (gjq44_0_1) NN24 NN4 36 (Eq44x16.get (gjq44_0_1) NN4 36 (by simp)) (by omega) (m := [(g14, NN2, 36), (g9, ZR1, 103), (gq17s0, NN8, 36), (gq25s0, NN14, 36), (gq34s0, NN20, 36)]) (fun p hp => by simp at hp; rcases hp with rfl | rfl | rfl | rfl | rfl <;> exact .inr ⟨by simp, by simp only; omega⟩)
      have Eq44x19 := Eq44x16.set (gjq44_0_1) NN24 NN4 36 (Eq44x16.get (gjq44_0_1) NN4 36 (by simp)) (by omega) (m := [(gjq44_0_0, NN22, 36), (gjq44_0_1, NN24, 36)]) (fun p hp => by simp at hp; rcases hp with rfl | rfl <;> first | exact .inl rfl | exact .inr ⟨by simp, by simp only; omega⟩)
      generalize wq44x14.setRow (gjq44_0_1) NN24 = wq44x17 at *
      refine AnyF.done (by kernel_rfl) ?_ _
      refine nrm_intro ⟨gjq44_0_0, gjq44_0_1, rfl, (Hq44x18.app Eq44x19).sub (fun p hp => by simp at hp; rcases hp with rfl | rfl | rfl | rfl | rfl <;> simp), by omega, by omega, by omega, by omega, by omega, by omega, by omega, by omega, by omega, by omega, by omega, by omega, by omega⟩
    intro Jq44_0
    refine F_have 3 #[true, true, true, true, true, true, true, false, false, false] (fun a W => ∃ gjq44_1_0, a = { tmps := #[.agg PA, .agg PB, .pointer (some ⟨w.heap.size, 0, none⟩), .pointer (some ⟨g6, 0, none⟩), .pointer (some ⟨g9, 0, none⟩), .pointer (some ⟨g14, 0, none⟩), .pointer (some ⟨gq17s0, 0, none⟩), .pointer (some ⟨gq25s0, 0, none⟩), .pointer (some ⟨gq34s0, 0, none⟩), .pointer (some ⟨gjq44_1_0, 0, none⟩), undef, .pointer (some ⟨w.heap.size, 8, none⟩), .agg Z1, .pointer (some ⟨g6, 8, none⟩), .agg Z2, .agg NN2, .agg NN5, .pointer (some ⟨w.heap.size, 12, none⟩), .agg T1, .pointer (some ⟨g6, 12, none⟩), .agg T2, .agg NN6, .agg NN8, .pointer (some ⟨w.heap.size, 0, none⟩), .agg X1, .pointer (some ⟨g6, 4, none⟩), .agg Y2, .agg NN10, .pointer (some ⟨w.heap.size, 4, none⟩), .agg Y1, .pointer (some ⟨g6, 0, none⟩), .agg X2, .agg NN12, .agg NN14, .pointer (some ⟨w.heap.size, 4, none⟩), .agg Y1, .pointer (some ⟨g6, 4, none⟩), .agg Y2, .agg NN16, .pointer (some ⟨w.heap.size, 0, none⟩), .agg X1, .pointer (some ⟨g6, 0, none⟩), .agg X2, .agg NN18, .agg NN20, .agg NN2, .agg NN8, .agg NN22, .agg NN2, .agg NN8, .agg NN24, undef, undef, undef, undef, undef, undef, undef, undef, undef, undef, undef, undef, undef], defers := [] } ∧ Kt w [(g14, NN2, 36), (g9, ZR1, 103), (gq17s0, NN8, 36), (gq25s0, NN14, 36), (gq34s0, NN20, 36)] W ∧ Kt w [(gjq44_1_0, NN4, 36)] W ∧ w.heap.size ≤ gjq44_1_0 ∧ gjq44_1_0 ≠ g14 ∧ gjq44_1_0 ≠ g9 ∧ gjq44_1_0 ≠ gq17s0 ∧ gjq44_1_0 ≠ gq25s0 ∧ gjq44_1_0 ≠ gq34s0) ?_ ?_
    · rintro a wq44x20 ⟨gjq44_1_0, rfl, Hq44x21, Eq44x22, fJq44_1_0, fJq44_1_1, fJq44_1_2, fJq44_1_3, fJq44_1_4, fJq44_1_5⟩
      refine rdy [7] (ral 10 36 HZ24 (Hq44x21.alloc _) ?_ ReadyF.nil)
      have l0wq44x23 := Hq44x21.lt (g14) NN2 36 (by simp)
      have l1wq44x23 := Hq44x21.lt (g9) ZR1 103 (by simp)
      have l2wq44x23 := Hq44x21.lt (gq17s0) NN8 36 (by simp)
      have l3wq44x23 := Hq44x21.lt (gq25s0) NN14 36 (by simp)
      have l4wq44x23 := Hq44x21.lt (gq34s0) NN20 36 (by simp)
      have m0wq44x23 := Eq44x22.lt (gjq44_1_0) NN4 36 (by simp)
      have bwq44x23 := Hq44x21.1.size
      have Hq44x24 := Hq44x21.alloc (.cells NN4 36)
      have Eq44x25 := Eq44x22.new NN4 36
      simp only [Act.put, sT, sS, sZ]
      obtain ⟨wq44x23, hwq44x23⟩ : ∃ W, W = wq44x20.alloc (.cells NN4 36) := ⟨_, rfl⟩
      rw [← hwq44x23] at Hq44x24 Eq44x25 ⊢
      clear hwq44x23
      exact F_to (by kernel_rfl) (by kernel_rfl) (Jq44_0 _ _ ⟨gjq44_1_0, wq44x20.heap.size, rfl, Hq44x24, Eq44x25.sub (fun p hp => by simp at hp; rcases hp with rfl | rfl <;> simp), by omega, by omega, by omega, by omega, by omega, by omega, by omega, by omega, by omega, by omega, by omega, by omega, by omega⟩)
    intro Jq44_1
    refine F_have 3 #[true, true, true, true, true, true, false, true, false, false] (fun a W => ∃ gjq44_2_0, a = { tmps := #[.agg PA, .agg PB, .pointer (some ⟨w.heap.size, 0, none⟩), .pointer (some ⟨g6, 0, none⟩), .pointer (some ⟨g9, 0, none⟩), .pointer (some ⟨g14, 0, none⟩), .pointer (some ⟨gq17s0, 0, none⟩), .pointer (some ⟨gq25s0, 0, none⟩), .pointer (some ⟨gq34s0, 0, none⟩), undef, .pointer (some ⟨gjq44_2_0, 0, none⟩), .pointer (some ⟨w.heap.size, 8, none⟩), .agg Z1, .pointer (some ⟨g6, 8, none⟩), .agg Z2, .agg NN2, .agg NN5, .pointer (some ⟨w.heap.size, 12, none⟩), .agg T1, .pointer (some ⟨g6, 12, none⟩), .agg T2, .agg NN6, .agg NN8, .pointer (some ⟨w.heap.size, 0, none⟩), .agg X1, .pointer (some ⟨g6, 4, none⟩), .agg Y2, .agg NN10, .pointer (some ⟨w.heap.size, 4, none⟩), .agg Y1, .pointer (some ⟨g6, 0, none⟩), .agg X2, .agg NN12, .agg NN14, .pointer (some ⟨w.heap.size, 4, none⟩), .agg Y1, .pointer (some ⟨g6, 4, none⟩), .agg Y2, .agg NN16, .pointer (some ⟨w.heap.size, 0, none⟩), .agg X1, .pointer (some ⟨g6, 0, none⟩), .agg X2, .agg NN18, .agg NN20, .agg NN2, .agg NN8, .agg NN22, .agg NN2, .agg NN8, .agg NN24, undef, undef, undef, undef, undef, undef, undef, undef, undef, undef, undef, undef, undef], defers := [] } ∧ Kt w [(g14, NN2, 36), (g9, ZR1, 103), (gq17s0, NN8, 36), (gq25s0, NN14, 36), (gq34s0, NN20, 36)] W ∧ Kt w [(gjq44_2_0, NN4, 36)] W ∧ w.heap.size ≤ gjq44_2_0 ∧ gjq44_2_0 ≠ g14 ∧ gjq44_2_0 ≠ g9 ∧ gjq44_2_0 ≠ gq17s0 ∧ gjq44_2_0 ≠ gq25s0 ∧ gjq44_2_0 ≠ gq34s0) ?_ ?_
    · rintro a wq44x26 ⟨gjq44_2_0, rfl, Hq44x27, Eq44x28, fJq44_2_0, fJq44_2_1, fJq44_2_2, fJq44_2_3, fJq44_2_4, fJq44_2_5⟩
      refine rdy [6] (ral 9 36 HZ24 (Hq44x27.alloc _) ?_ ReadyF.nil)
      have l0wq44x29 := Hq44x27.lt (g14) NN2 36 (by simp)
      have l1wq44x29 := Hq44x27.lt (g9) ZR1 103 (by simp)
      have l2wq44x29 := Hq44x27.lt (gq17s0) NN8 36 (by simp)
      have l3wq44x29 := Hq44x27.lt (gq25s0) NN14 36 (by simp)
      have l4wq44x29 := Hq44x27.lt (gq34s0) NN20 36 (by simp)
      have m0wq44x29 := Eq44x28.lt (gjq44_2_0) NN4 36 (by simp)
      have bwq44x29 := Hq44x27.1.size
      have Hq44x30 := Hq44x27.alloc (.cells NN4 36)
      have Eq44x31 := Eq44x28.new NN4 36
      simp only [Act.put, sT, sS, sZ]
      obtain ⟨wq44x29, hwq44x29⟩ : ∃ W, W = wq44x26.alloc (.cells NN4 36) := ⟨_, rfl⟩
      rw [← hwq44x29] at Hq44x30 Eq44x31 ⊢
      clear hwq44x29
      exact F_to (by kernel_rfl) (by kernel_rfl) (Jq44_0 _ _ ⟨wq44x26.heap.size, gjq44_2_0, rfl, Hq44x30, Eq44x31, by omega, by omega, by omega, by omega, by omega, by omega, by omega, by omega, by omega, by omega, by omega, by omega, by omega⟩)
    intro Jq44_2
    refine F_have 3 #[true, true, true, true, true, false, true, true, false, false] (fun a W => ∃ gjq44_3_0 gjq44_3_1, a = { tmps := #[.agg PA, .agg PB, .pointer (some ⟨w.heap.size, 0, none⟩), .pointer (some ⟨g6, 0, none⟩), .pointer (some ⟨g9, 0, none⟩), .pointer (some ⟨g14, 0, none⟩), .pointer (some ⟨gq17s0, 0, none⟩), .pointer (some ⟨gq25s0, 0, none⟩), .pointer (some ⟨gq34s0, 0, none⟩), .pointer (some ⟨gjq44_3_0, 0, none⟩), .pointer (some ⟨gjq44_3_1, 0, none⟩), .pointer (some ⟨w.heap.size, 8, none⟩), .agg Z1, .pointer (some ⟨g6, 8, none⟩), .agg Z2, .agg NN2, .agg NN5, .pointer (some ⟨w.heap.size, 12, none⟩), .agg T1, .pointer (some ⟨g6, 12, none⟩), .agg T2, .agg NN6, .agg NN8, .pointer (some ⟨w.heap.size, 0, none⟩), .agg X1, .pointer (some ⟨g6, 4, none⟩), .agg Y2, .agg NN10, .pointer (some ⟨w.heap.size, 4, none⟩), .agg Y1, .pointer (some ⟨g6, 0, none⟩), .agg X2, .agg NN12, .agg NN14, .pointer (some ⟨w.heap.size, 4, none⟩), .agg Y1, .pointer (some ⟨g6, 4, none⟩), .agg Y2, .agg NN16, .pointer (some ⟨w.heap.size, 0, none⟩), .agg X1, .pointer (some ⟨g6, 0, none⟩), .agg X2, .agg NN18, .agg NN20, .agg NN2, .agg NN8, .agg NN22, .agg NN2, .agg NN8, undef, undef, undef, undef, undef, undef, undef, undef, undef, undef, undef, undef, undef, undef], defers := [] } ∧ Kt w [(g14, NN2, 36), (g9, ZR1, 103), (gq17s0, NN8, 36), (gq25s0, NN14, 36), (gq34s0, NN20, 36)] W ∧ Kt w [(gjq44_3_0, NN4, 36), (gjq44_3_1, NN4, 36)] W ∧ w.heap.size ≤ gjq44_3_0 ∧ w.heap.size ≤ gjq44_3_1 ∧ gjq44_3_0 ≠ g14 ∧ gjq44_3_0 ≠ g9 ∧ gjq44_3_0 ≠ gq17s0 ∧ gjq44_3_0 ≠ gq25s0 ∧ gjq44_3_0 ≠ gq34s0 ∧ gjq44_3_1 ≠ g14 ∧ gjq44_3_1 ≠ g9 ∧ gjq44_3_1 ≠ gq17s0 ∧ gjq44_3_1 ≠ gq25s0 ∧ gjq44_3_1 ≠ gq34s0 ∧ gjq44_3_1 ≠ gjq44_3_0) ?_ ?_
    · rintro a wq44x32 ⟨gjq44_3_0, gjq44_3_1, rfl, Hq44x33, Eq44x34, fJq44_3_0, fJq44_3_1, fJq44_3_2, fJq44_3_3, fJq44_3_4, fJq44_3_5, fJq44_3_6, fJq44_3_7, fJq44_3_8, fJq44_3_9, fJq44_3_10, fJq44_3_11, fJq44_3_12⟩
      refine rdy [5] (rcl (some 50) 89 #[.tmp 48, .tmp 49] #[36, 36] #[.agg NN2, .agg NN8] en30 _ (HC25.out _) ?_ ReadyF.nil)
      rintro v wq44x35 ⟨he, hb⟩
      cases he
      have Hq44x36 := Hq44x33.below hb
      have Eq44x37 := Eq44x34.below hb
      clear hb
      refine ⟨Hq44x36, ?_⟩
      simp only [Act.put, sT, sS, sZ]
      exact F_to (by kernel_rfl) (by kernel_rfl) (Jq44_0 _ _ ⟨gjq44_3_0, gjq44_3_1, rfl, Hq44x36, Eq44x37, by omega, by omega, by omega, by omega, by omega, by omega, by omega, by omega, by omega, by omega, by omega, by omega, by omega⟩)
    intro Jq44_3
    refine F_have 4 #[true, true, true, true, true, false, true, false, false, false] (fun a W => ∃ gjq44_4_0, a = { tmps := #[.agg PA, .agg PB, .pointer (some ⟨w.heap.size, 0, none⟩), .pointer (some ⟨g6, 0, none⟩), .pointer (some ⟨g9, 0, none⟩), .pointer (some ⟨g14, 0, none⟩), .pointer (some ⟨gq17s0, 0, none⟩), .pointer (some ⟨gq25s0, 0, none⟩), .pointer (some ⟨gq34s0, 0, none⟩), .pointer (some ⟨gjq44_4_0, 0, none⟩), undef, .pointer (some ⟨w.heap.size, 8, none⟩), .agg Z1, .pointer (some ⟨g6, 8, none⟩), .agg Z2, .agg NN2, .agg NN5, .pointer (some ⟨w.heap.size, 12, none⟩), .agg T1, .pointer (some ⟨g6, 12, none⟩), .agg T2, .agg NN6, .agg NN8, .pointer (some ⟨w.heap.size, 0, none⟩), .agg X1, .pointer (some ⟨g6, 4, none⟩), .agg Y2, .agg NN10, .pointer (some ⟨w.heap.size, 4, none⟩), .agg Y1, .pointer (some ⟨g6, 0, none⟩), .agg X2, .agg NN12, .agg NN14, .pointer (some ⟨w.heap.size, 4, none⟩), .agg Y1, .pointer (some ⟨g6, 4, none⟩), .agg Y2, .agg NN16, .pointer (some ⟨w.heap.size, 0, none⟩), .agg X1, .pointer (some ⟨g6, 0, none⟩), .agg X2, .agg NN18, .agg NN20, .agg NN2, .agg NN8, .agg NN22, .agg NN2, .agg NN8, undef, undef, undef, undef, undef, undef, undef, undef, undef, undef, undef, undef, undef, undef], defers := [] } ∧ Kt w [(g14, NN2, 36), (g9, ZR1, 103), (gq17s0, NN8, 36), (gq25s0, NN14, 36), (gq34s0, NN20, 36)] W ∧ Kt w [(gjq44_4_0, NN4, 36)] W ∧ w.heap.size ≤ gjq44_4_0 ∧ gjq44_4_0 ≠ g14 ∧ gjq44_4_0 ≠ g9 ∧ gjq44_4_0 ≠ gq17s0 ∧ gjq44_4_0 ≠ gq25s0 ∧ gjq44_4_0 ≠ gq34s0) ?_ ?_
    · rintro a wq44x38 ⟨gjq44_4_0, rfl, Hq44x39, Eq44x40, fJq44_4_0, fJq44_4_1, fJq44_4_2, fJq44_4_3, fJq44_4_4, fJq44_4_5⟩
      refine rdy [5, 7] (rcl (some 50) 89 #[.tmp 48, .tmp 49] #[36, 36] #[.agg NN2, .agg NN8] en30 _ (HC25.out _) ?_ (ral 10 36 HZ24 (Hq44x39.alloc _) ?_ ReadyF.nil))
      · rintro v wq44x41 ⟨he, hb⟩
        cases he
        have Hq44x42 := Hq44x39.below hb
        have Eq44x43 := Eq44x40.below hb
        clear hb
        refine ⟨Hq44x42, ?_⟩
        simp only [Act.put, sT, sS, sZ]
        exact F_to (by kernel_rfl) (by kernel_rfl) (Jq44_1 _ _ ⟨gjq44_4_0, rfl, Hq44x42, Eq44x43, by omega, by omega, by omega, by omega, by omega, by omega⟩)
      · have l0wq44x44 := Hq44x39.lt (g14) NN2 36 (by simp)
        have l1wq44x44 := Hq44x39.lt (g9) ZR1 103 (by simp)
        have l2wq44x44 := Hq44x39.lt (gq17s0) NN8 36 (by simp)
        have l3wq44x44 := Hq44x39.lt (gq25s0) NN14 36 (by simp)
        have l4wq44x44 := Hq44x39.lt (gq34s0) NN20 36 (by simp)
        have m0wq44x44 := Eq44x40.lt (gjq44_4_0) NN4 36 (by simp)
        have bwq44x44 := Hq44x39.1.size
        have Hq44x45 := Hq44x39.alloc (.cells NN4 36)
        have Eq44x46 := Eq44x40.new NN4 36
        simp only [Act.put, sT, sS, sZ]
        obtain ⟨wq44x44, hwq44x44⟩ : ∃ W, W = wq44x38.alloc (.cells NN4 36) := ⟨_, rfl⟩
        rw [← hwq44x44] at Hq44x45 Eq44x46 ⊢
        clear hwq44x44
        exact F_to (by kernel_rfl) (by kernel_rfl) (Jq44_3 _ _ ⟨gjq44_4_0, wq44x38.heap.size, rfl, Hq44x45, Eq44x46.sub (fun p hp => by simp at hp; rcases hp with rfl | rfl <;> simp), by omega, by omega, by omega, by omega, by omega, by omega, by omega, by omega, by omega, by omega, by omega, by omega, by omega⟩)
    intro Jq44_4
    refine F_have 4 #[true, true, true, true, true, false, false, true, false, false] (fun a W => ∃ gjq44_5_0, a = { tmps := #[.agg PA, .agg PB, .pointer (some ⟨w.heap.size, 0, none⟩), .pointer (some ⟨g6, 0, none⟩), .pointer (some ⟨g9, 0, none⟩), .pointer (some ⟨g14, 0, none⟩), .pointer (some ⟨gq17s0, 0, none⟩), .pointer (some ⟨gq25s0, 0, none⟩), .pointer (some ⟨gq34s0, 0, none⟩), undef, .pointer (some ⟨gjq44_5_0, 0, none⟩), .pointer (some ⟨w.heap.size, 8, none⟩), .agg Z1, .pointer (some ⟨g6, 8, none⟩), .agg Z2, .agg NN2, .agg NN5, .pointer (some ⟨w.heap.size, 12, none⟩), .agg T1, .pointer (some ⟨g6, 12, none⟩), .agg T2, .agg NN6, .agg NN8, .pointer (some ⟨w.heap.size, 0, none⟩), .agg X1, .pointer (some ⟨g6, 4, none⟩), .agg Y2, .agg NN10, .pointer (some ⟨w.heap.size, 4, none⟩), .agg Y1, .pointer (some ⟨g6, 0, none⟩), .agg X2, .agg NN12, .agg NN14, .pointer (some ⟨w.heap.size, 4, none⟩), .agg Y1, .pointer (some ⟨g6, 4, none⟩), .agg Y2, .agg NN16, .pointer (some ⟨w.heap.size, 0, none⟩), .agg X1, .pointer (some ⟨g6, 0, none⟩), .agg X2, .agg NN18, .agg NN20, .agg NN2, .agg NN8, .agg NN22, .agg NN2, .agg NN8, undef, undef, undef, undef, undef, undef, undef, undef, undef, undef, undef, undef, undef, undef], defers := [] } ∧ Kt w [(g14, NN2, 36), (g9, ZR1, 103), (gq17s0, NN8, 36), (gq25s0, NN14, 36), (gq34s0, NN20, 36)] W ∧ Kt w [(gjq44_5_0, NN4, 36)] W ∧ w.heap.size ≤ gjq44_5_0 ∧ gjq44_5_0 ≠ g14 ∧ gjq44_5_0 ≠ g9 ∧ gjq44_5_0 ≠ gq17s0 ∧ gjq44_5_0 ≠ gq25s0 ∧ gjq44_5_0 ≠ gq34s0) ?_ ?_
    · rintro a wq44x47 ⟨gjq44_5_0, rfl, Hq44x48, Eq44x49, fJq44_5_0, fJq44_5_1, fJq44_5_2, fJq44_5_3, fJq44_5_4, fJq44_5_5⟩
      refine rdy [5, 6] (rcl (some 50) 89 #[.tmp 48, .tmp 49] #[36, 36] #[.agg NN2, .agg NN8] en30 _ (HC25.out _) ?_ (ral 9 36 HZ24 (Hq44x48.alloc _) ?_ ReadyF.nil))
      · rintro v wq44x50 ⟨he, hb⟩
        cases he
        have Hq44x51 := Hq44x48.below hb
        have Eq44x52 := Eq44x49.below hb
        clear hb
        refine ⟨Hq44x51, ?_⟩
        simp only [Act.put, sT, sS, sZ]
        exact F_to (by kernel_rfl) (by kernel_rfl) (Jq44_2 _ _ ⟨gjq44_5_0, rfl, Hq44x51, Eq44x52, by omega, by omega, by omega, by omega, by omega, by omega⟩)
      · have l0wq44x53 := Hq44x48.lt (g14) NN2 36 (by simp)
        have l1wq44x53 := Hq44x48.lt (g9) ZR1 103 (by simp)
        have l2wq44x53 := Hq44x48.lt (gq17s0) NN8 36 (by simp)
        have l3wq44x53 := Hq44x48.lt (gq25s0) NN14 36 (by simp)
        have l4wq44x53 := Hq44x48.lt (gq34s0) NN20 36 (by simp)
        have m0wq44x53 := Eq44x49.lt (gjq44_5_0) NN4 36 (by simp)
        have bwq44x53 := Hq44x48.1.size
        have Hq44x54 := Hq44x48.alloc (.cells NN4 36)
        have Eq44x55 := Eq44x49.new NN4 36
        simp only [Act.put, sT, sS, sZ]
        obtain ⟨wq44x53, hwq44x53⟩ : ∃ W, W = wq44x47.alloc (.cells NN4 36) := ⟨_, rfl⟩
        rw [← hwq44x53] at Hq44x54 Eq44x55 ⊢
        clear hwq44x53
        exact F_to (by kernel_rfl) (by kernel_rfl) (Jq44_3 _ _ ⟨wq44x47.heap.size, gjq44_5_0, rfl, Hq44x54, Eq44x55, by omega, by omega, by omega, by omega, by omega, by omega, by omega, by omega, by omega, by omega, by omega, by omega, by omega⟩)
    intro Jq44_5
    refine F_have 4 #[true, true, false, true, true, false, true, true, false, false] (fun a W => ∃ gjq44_6_0 gjq44_6_1, a = { tmps := #[.agg PA, .agg PB, .pointer (some ⟨w.heap.size, 0, none⟩), .pointer (some ⟨g6, 0, none⟩), .pointer (some ⟨g9, 0, none⟩), .pointer (some ⟨g14, 0, none⟩), .pointer (some ⟨gq17s0, 0, none⟩), .pointer (some ⟨gq25s0, 0, none⟩), .pointer (some ⟨gq34s0, 0, none⟩), .pointer (some ⟨gjq44_6_0, 0, none⟩), .pointer (some ⟨gjq44_6_1, 0, none⟩), .pointer (some ⟨w.heap.size, 8, none⟩), .agg Z1, .pointer (some ⟨g6, 8, none⟩), .agg Z2, .agg NN2, .agg NN5, .pointer (some ⟨w.heap.size, 12, none⟩), .agg T1, .pointer (some ⟨g6, 12, none⟩), .agg T2, .agg NN6, .agg NN8, .pointer (some ⟨w.heap.size, 0, none⟩), .agg X1, .pointer (some ⟨g6, 4, none⟩), .agg Y2, .agg NN10, .pointer (some ⟨w.heap.size, 4, none⟩), .agg Y1, .pointer (some ⟨g6, 0, none⟩), .agg X2, .agg NN12, .agg NN14, .pointer (some ⟨w.heap.size, 4, none⟩), .agg Y1, .pointer (some ⟨g6, 4, none⟩), .agg Y2, .agg NN16, .pointer (some ⟨w.heap.size, 0, none⟩), .agg X1, .pointer (some ⟨g6, 0, none⟩), .agg X2, .agg NN18, .agg NN20, .agg NN2, .agg NN8, undef, .agg NN2, .agg NN8, undef, undef, undef, undef, undef, undef, undef, undef, undef, undef, undef, undef, undef, undef], defers := [] } ∧ Kt w [(g14, NN2, 36), (g9, ZR1, 103), (gq17s0, NN8, 36), (gq25s0, NN14, 36), (gq34s0, NN20, 36)] W ∧ Kt w [(gjq44_6_0, NN4, 36), (gjq44_6_1, NN4, 36)] W ∧ w.heap.size ≤ gjq44_6_0 ∧ w.heap.size ≤ gjq44_6_1 ∧ gjq44_6_0 ≠ g14 ∧ gjq44_6_0 ≠ g9 ∧ gjq44_6_0 ≠ gq17s0 ∧ gjq44_6_0 ≠ gq25s0 ∧ gjq44_6_0 ≠ gq34s0 ∧ gjq44_6_1 ≠ g14 ∧ gjq44_6_1 ≠ g9 ∧ gjq44_6_1 ≠ gq17s0 ∧ gjq44_6_1 ≠ gq25s0 ∧ gjq44_6_1 ≠ gq34s0 ∧ gjq44_6_1 ≠ gjq44_6_0) ?_ ?_
    · rintro a wq44x56 ⟨gjq44_6_0, gjq44_6_1, rfl, Hq44x57, Eq44x58, fJq44_6_0, fJq44_6_1, fJq44_6_2, fJq44_6_3, fJq44_6_4, fJq44_6_5, fJq44_6_6, fJq44_6_7, fJq44_6_8, fJq44_6_9, fJq44_6_10, fJq44_6_11, fJq44_6_12⟩
      refine rdy [2] (rcl (some 47) 131 #[.tmp 45, .tmp 46] #[36, 36] #[.agg NN2, .agg NN8] en41 _ (HC23.out _) ?_ ReadyF.nil)
      rintro v wq44x59 ⟨he, hb⟩
      cases he
      have Hq44x60 := Hq44x57.below hb
      have Eq44x61 := Eq44x58.below hb
      clear hb
      refine ⟨Hq44x60, ?_⟩
      simp only [Act.put, sT, sS, sZ]
      exact F_to (by kernel_rfl) (by kernel_rfl) (Jq44_3 _ _ ⟨gjq44_6_0, gjq44_6_1, rfl, Hq44x60, Eq44x61, by omega, by omega, by omega, by omega, by omega, by omega, by omega, by omega, by omega, by omega, by omega, by omega, by omega⟩)
    intro Jq44_6
    refine tkG 0 (some 45) (.load 36 (.tmp 5)) none (.agg NN2) (fun o ho w2 hw => exec_load_of _ 36 (.tmp 5) ho ⟨g14, 0, none⟩ rfl _ (loadA24 INN2 (hw.get (g14) NN2 36 (by simp)))) HDq44x1 ?_
    simp only [Act.put, sT, sS, sZ]
    refine tkG 1 (some 46) (.load 36 (.tmp 6)) none (.agg NN8) (fun o ho w2 hw => exec_load_of _ 36 (.tmp 6) ho ⟨gq17s0, 0, none⟩ rfl _ (loadA24 INN8 (hw.get (gq17s0) NN8 36 (by simp)))) HDq44x1 ?_
    simp only [Act.put, sT, sS, sZ]
    refine tkG 3 (some 48) (.load 36 (.tmp 5)) none (.agg NN2) (fun o ho w2 hw => exec_load_of _ 36 (.tmp 5) ho ⟨g14, 0, none⟩ rfl _ (loadA24 INN2 (hw.get (g14) NN2 36 (by simp)))) HDq44x1 ?_
    simp only [Act.put, sT, sS, sZ]
    refine tkG 4 (some 49) (.load 36 (.tmp 6)) none (.agg NN8) (fun o ho w2 hw => exec_load_of _ 36 (.tmp 6) ho ⟨gq17s0, 0, none⟩ rfl _ (loadA24 INN8 (hw.get (gq17s0) NN8 36 (by simp)))) HDq44x1 ?_
    simp only [Act.put, sT, sS, sZ]
    refine rdy [2, 6, 7] (rcl (some 47) 131 #[.tmp 45, .tmp 46] #[36, 36] #[.agg NN2, .agg NN8] en41 _ (HC23.out _) ?_ (ral 9 36 HZ24 (HDq44x1.alloc _) ?_ (ral 10 36 HZ24 (HDq44x1.alloc _) ?_ ReadyF.nil)))
    · rintro v wq44x62 ⟨he, hb⟩
      cases he
      have Hq44x63 := HDq44x1.below hb
      clear hb
      refine ⟨Hq44x63, ?_⟩
      simp only [Act.put, sT, sS, sZ]
      refine rdy [5, 6, 7] (rcl (some 50) 89 #[.tmp 48, .tmp 49] #[36, 36] #[.agg NN2, .agg NN8] en30 _ (HC25.out _) ?_ (ral 9 36 HZ24 (Hq44x63.alloc _) ?_ (ral 10 36 HZ24 (Hq44x63.alloc _) ?_ ReadyF.nil)))
      · rintro v wq44x64 ⟨he, hb⟩
        cases he
        have Hq44x65 := Hq44x63.below hb
        clear hb
        refine ⟨Hq44x65, ?_⟩
        simp only [Act.put, sT, sS, sZ]
        refine rdy [6, 7] (ral 9 36 HZ24 (Hq44x65.alloc _) ?_ (ral 10 36 HZ24 (Hq44x65.alloc _) ?_ ReadyF.nil))
        · have l0wq44x66 := Hq44x65.lt (g14) NN2 36 (by simp)
          have l1wq44x66 := Hq44x65.lt (g9) ZR1 103 (by simp)
          have l2wq44x66 := Hq44x65.lt (gq17s0) NN8 36 (by simp)
          have l3wq44x66 := Hq44x65.lt (gq25s0) NN14 36 (by simp)
          have l4wq44x66 := Hq44x65.lt (gq34s0) NN20 36 (by simp)
          have bwq44x66 := Hq44x65.1.size
          have Hq44x67 := Hq44x65.alloc (.cells NN4 36)
          have Eq44x68 := (Hq44x65.sub (m := []) (fun p hp => by cases hp)).new NN4 36
          simp only [Act.put, sT, sS, sZ]
          obtain ⟨wq44x66, hwq44x66⟩ : ∃ W, W = wq44x64.alloc (.cells NN4 36) := ⟨_, rfl⟩
          rw [← hwq44x66] at Hq44x67 Eq44x68 ⊢
          clear hwq44x66
          exact F_to (by kernel_rfl) (by kernel_rfl) (Jq44_1 _ _ ⟨wq44x64.heap.size, rfl, Hq44x67, Eq44x68, by omega, by omega, by omega, by omega, by omega, by omega⟩)
        · have l0wq44x69 := Hq44x65.lt (g14) NN2 36 (by simp)
          have l1wq44x69 := Hq44x65.lt (g9) ZR1 103 (by simp)
          have l2wq44x69 := Hq44x65.lt (gq17s0) NN8 36 (by simp)
          have l3wq44x69 := Hq44x65.lt (gq25s0) NN14 36 (by simp)
          have l4wq44x69 := Hq44x65.lt (gq34s0) NN20 36 (by simp)
          have bwq44x69 := Hq44x65.1.size
          have Hq44x70 := Hq44x65.alloc (.cells NN4 36)
          have Eq44x71 := (Hq44x65.sub (m := []) (fun p hp => by cases hp)).new NN4 36
          simp only [Act.put, sT, sS, sZ]
          obtain ⟨wq44x69, hwq44x69⟩ : ∃ W, W = wq44x64.alloc (.cells NN4 36) := ⟨_, rfl⟩
          rw [← hwq44x69] at Hq44x70 Eq44x71 ⊢
          clear hwq44x69
          exact F_to (by kernel_rfl) (by kernel_rfl) (Jq44_2 _ _ ⟨wq44x64.heap.size, rfl, Hq44x70, Eq44x71, by omega, by omega, by omega, by omega, by omega, by omega⟩)
      · have l0wq44x72 := Hq44x63.lt (g14) NN2 36 (by simp)
        have l1wq44x72 := Hq44x63.lt (g9) ZR1 103 (by simp)
        have l2wq44x72 := Hq44x63.lt (gq17s0) NN8 36 (by simp)
        have l3wq44x72 := Hq44x63.lt (gq25s0) NN14 36 (by simp)
        have l4wq44x72 := Hq44x63.lt (gq34s0) NN20 36 (by simp)
        have bwq44x72 := Hq44x63.1.size
        have Hq44x73 := Hq44x63.alloc (.cells NN4 36)
        have Eq44x74 := (Hq44x63.sub (m := []) (fun p hp => by cases hp)).new NN4 36
        simp only [Act.put, sT, sS, sZ]
        obtain ⟨wq44x72, hwq44x72⟩ : ∃ W, W = wq44x62.alloc (.cells NN4 36) := ⟨_, rfl⟩
        rw [← hwq44x72] at Hq44x73 Eq44x74 ⊢
        clear hwq44x72
        exact F_to (by kernel_rfl) (by kernel_rfl) (Jq44_4 _ _ ⟨wq44x62.heap.size, rfl, Hq44x73, Eq44x74, by omega, by omega, by omega, by omega, by omega, by omega⟩)
      · have l0wq44x75 := Hq44x63.lt (g14) NN2 36 (by simp)
        have l1wq44x75 := Hq44x63.lt (g9) ZR1 103 (by simp)
        have l2wq44x75 := Hq44x63.lt (gq17s0) NN8 36 (by simp)
        have l3wq44x75 := Hq44x63.lt (gq25s0) NN14 36 (by simp)
        have l4wq44x75 := Hq44x63.lt (gq34s0) NN20 36 (by simp)
        have bwq44x75 := Hq44x63.1.size
        have Hq44x76 := Hq44x63.alloc (.cells NN4 36)
        have Eq44x77 := (Hq44x63.sub (m := []) (fun p hp => by cases hp)).new NN4 36
        simp only [Act.put, sT, sS, sZ]
        obtain ⟨wq44x75, hwq44x75⟩ : ∃ W, W = wq44x62.alloc (.cells NN4 36) := ⟨_, rfl⟩
        rw [← hwq44x75] at Hq44x76 Eq44x77 ⊢
        clear hwq44x75
        exact F_to (by kernel_rfl) (by kernel_rfl) (Jq44_5 _ _ ⟨wq44x62.heap.size, rfl, Hq44x76, Eq44x77, by omega, by omega, by omega, by omega, by omega, by omega⟩)
    · have l0wq44x78 := HDq44x1.lt (g14) NN2 36 (by simp)
      have l1wq44x78 := HDq44x1.lt (g9) ZR1 103 (by simp)
      have l2wq44x78 := HDq44x1.lt (gq17s0) NN8 36 (by simp)
      have l3wq44x78 := HDq44x1.lt (gq25s0) NN14 36 (by simp)
      have l4wq44x78 := HDq44x1.lt (gq34s0) NN20 36 (by simp)
      have bwq44x78 := HDq44x1.1.size
      have Hq44x79 := HDq44x1.alloc (.cells NN4 36)
      have Eq44x80 := (HDq44x1.sub (m := []) (fun p hp => by cases hp)).new NN4 36
      simp only [Act.put, sT, sS, sZ]
      obtain ⟨wq44x78, hwq44x78⟩ : ∃ W, W = wdq44x2.alloc (.cells NN4 36) := ⟨_, rfl⟩
      rw [← hwq44x78] at Hq44x79 Eq44x80 ⊢
      clear hwq44x78
      refine rdy [2, 7] (rcl (some 47) 131 #[.tmp 45, .tmp 46] #[36, 36] #[.agg NN2, .agg NN8] en41 _ (HC23.out _) ?_ (ral 10 36 HZ24 (Hq44x79.alloc _) ?_ ReadyF.nil))
      · rintro v wq44x81 ⟨he, hb⟩
        cases he
        have Hq44x82 := Hq44x79.below hb
        have Eq44x83 := Eq44x80.below hb
        clear hb
        refine ⟨Hq44x82, ?_⟩
        simp only [Act.put, sT, sS, sZ]
        exact F_to (by kernel_rfl) (by kernel_rfl) (Jq44_4 _ _ ⟨wdq44x2.heap.size, rfl, Hq44x82, Eq44x83, by omega, by omega, by omega, by omega, by omega, by omega⟩)
      · have l0wq44x84 := Hq44x79.lt (g14) NN2 36 (by simp)
        have l1wq44x84 := Hq44x79.lt (g9) ZR1 103 (by simp)
        have l2wq44x84 := Hq44x79.lt (gq17s0) NN8 36 (by simp)
        have l3wq44x84 := Hq44x79.lt (gq25s0) NN14 36 (by simp)
        have l4wq44x84 := Hq44x79.lt (gq34s0) NN20 36 (by simp)
        have m0wq44x84 := Eq44x80.lt (wdq44x2.heap.size) NN4 36 (by simp)
        have bwq44x84 := Hq44x79.1.size
        have Hq44x85 := Hq44x79.alloc (.cells NN4 36)
        have Eq44x86 := Eq44x80.new NN4 36
        simp only [Act.put, sT, sS, sZ]
        obtain ⟨wq44x84, hwq44x84⟩ : ∃ W, W = wq44x78.alloc (.cells NN4 36) := ⟨_, rfl⟩
        rw [← hwq44x84] at Hq44x85 Eq44x86 ⊢
        clear hwq44x84
        exact F_to (by kernel_rfl) (by kernel_rfl) (Jq44_6 _ _ ⟨wdq44x2.heap.size, wq44x78.heap.size, rfl, Hq44x85, Eq44x86.sub (fun p hp => by simp at hp; rcases hp with rfl | rfl <;> simp), by omega, by omega, by omega, by omega, by omega, by omega, by omega, by omega, by omega, by omega, by omega, by omega, by omega⟩)
    · have l0wq44x87 := HDq44x1.lt (g14) NN2 36 (by simp)
      have l1wq44x87 := HDq44x1.lt (g9) ZR1 103 (by simp)
      have l2wq44x87 := HDq44x1.lt (gq17s0) NN8 36 (by simp)
      have l3wq44x87 := HDq44x1.lt (gq25s0) NN14 36 (by simp)
      have l4wq44x87 := HDq44x1.lt (gq34s0) NN20 36 (by simp)
      have bwq44x87 := HDq44x1.1.size
      have Hq44x88 := HDq44x1.alloc (.cells NN4 36)
      have Eq44x89 := (HDq44x1.sub (m := []) (fun p hp => by cases hp)).new NN4 36
      simp only [Act.put, sT, sS, sZ]
      obtain ⟨wq44x87, hwq44x87⟩ : ∃ W, W = wdq44x2.alloc (.cells NN4 36) := ⟨_, rfl⟩
      rw [← hwq44x87] at Hq44x88 Eq44x89 ⊢
      clear hwq44x87
      refine rdy [2, 6] (rcl (some 47) 131 #[.tmp 45, .tmp 46] #[36, 36] #[.agg NN2, .agg NN8] en41 _ (HC23.out _) ?_ (ral 9 36 HZ24 (Hq44x88.alloc _) ?_ ReadyF.nil))
      · rintro v wq44x90 ⟨he, hb⟩
        cases he
        have Hq44x91 := Hq44x88.below hb
        have Eq44x92 := Eq44x89.below hb
        clear hb
        refine ⟨Hq44x91, ?_⟩
        simp only [Act.put, sT, sS, sZ]
        exact F_to (by kernel_rfl) (by kernel_rfl) (Jq44_5 _ _ ⟨wdq44x2.heap.size, rfl, Hq44x91, Eq44x92, by omega, by omega, by omega, by omega, by omega, by omega⟩)
      · have l0wq44x93 := Hq44x88.lt (g14) NN2 36 (by simp)
        have l1wq44x93 := Hq44x88.lt (g9) ZR1 103 (by simp)
        have l2wq44x93 := Hq44x88.lt (gq17s0) NN8 36 (by simp)
        have l3wq44x93 := Hq44x88.lt (gq25s0) NN14 36 (by simp)
        have l4wq44x93 := Hq44x88.lt (gq34s0) NN20 36 (by simp)
        have m0wq44x93 := Eq44x89.lt (wdq44x2.heap.size) NN4 36 (by simp)
        have bwq44x93 := Hq44x88.1.size
        have Hq44x94 := Hq44x88.alloc (.cells NN4 36)
        have Eq44x95 := Eq44x89.new NN4 36
        simp only [Act.put, sT, sS, sZ]
        obtain ⟨wq44x93, hwq44x93⟩ : ∃ W, W = wq44x87.alloc (.cells NN4 36) := ⟨_, rfl⟩
        rw [← hwq44x93] at Hq44x94 Eq44x95 ⊢
        clear hwq44x93
        exact F_to (by kernel_rfl) (by kernel_rfl) (Jq44_6 _ _ ⟨wq44x87.heap.size, wdq44x2.heap.size, rfl, Hq44x94, Eq44x95, by omega, by omega, by omega, by omega, by omega, by omega, by omega, by omega, by omega, by omega, by omega, by omega, by omega⟩)
  rintro a' w45 ⟨gq44s0, gq44s1, rfl, hk, e47, e48, e49, e50, e51, e52, e53, e54, e55, e56, e57, e58, e59⟩
  have HS46 := Lib.hid hk
  clear hk HS36
  go_upto_region 6 with fail
  refine wp_cut (fun a' W' => a' = { tmps := #[.agg PA, .agg PB, .pointer (some ⟨w.heap.size, 0, none⟩), .pointer (some ⟨g6, 0, none⟩), .pointer (some ⟨g9, 0, none⟩), .pointer (some ⟨g14, 0, none⟩), .pointer (some ⟨gq17s0, 0, none⟩), .pointer (some ⟨gq25s0, 0, none⟩), .pointer (some ⟨gq34s0, 0, none⟩), .pointer (some ⟨gq44s0, 0, none⟩), .pointer (some ⟨gq44s1, 0, none⟩), .pointer (some ⟨w.heap.size, 8, none⟩), .agg Z1, .pointer (some ⟨g6, 8, none⟩), .agg Z2, .agg NN2, .agg NN5, .pointer (some ⟨w.heap.size, 12, none⟩), .agg T1, .pointer (some ⟨g6, 12, none⟩), .agg T2, .agg NN6, .agg NN8, .pointer (some ⟨w.heap.size, 0, none⟩), .agg X1, .pointer (some ⟨g6, 4, none⟩), .agg Y2, .agg NN10, .pointer (some ⟨w.heap.size, 4, none⟩), .agg Y1, .pointer (some ⟨g6, 0, none⟩), .agg X2, .agg NN12, .agg NN14, .pointer (some ⟨w.heap.size, 4, none⟩), .agg Y1, .pointer (some ⟨g6, 4, none⟩), .agg Y2, .agg NN16, .pointer (some ⟨w.heap.size, 0, none⟩), .agg X1, .pointer (some ⟨g6, 0, none⟩), .agg X2, .agg NN18, .agg NN20, .agg NN2, .agg NN8, .agg NN22, .agg NN2, .agg NN8, .agg NN24, .agg NN14, .agg NN24, .agg NN26, .agg NN20, .agg NN22, .agg NN28, .agg NN22, .agg NN24, .agg NN30, .agg NN14, .agg NN20, .agg NN32, .agg PP35], defers := [] } ∧ Kt w [(g9, PP35, 103)] W') ?_ ?_
  · refine wp_region_any (by kernel_rfl) ?_
    change wpAny _ _ _ _ _ _ _ (World.drew _)
    have HDq60x1 := HS46.out.drew
    clear HS46
    generalize w45.drew = wdq60x2 at *
    refine any_of_F (S := Kt w [(g9, ZR1, 103), (gq25s0, NN14, 36), (gq34s0, NN20, 36), (gq44s0, NN22, 36), (gq44s1, NN24, 36)]) (f := 13) _ _ _ _ ?_
    refine tkL 0 (some 51) (.load 36 (.tmp 7)) (.agg NN14) (fun o ho w2 hw => exec_load_of _ 36 (.tmp 7) ho ⟨gq25s0, 0, none⟩ rfl _ (loadA24 INN14 (hw.get (gq25s0) NN14 36 (by simp)))) HDq60x1 ?_
    simp only [Act.put, sT, sS, sZ]
    refine tkL 1 (some 52) (.load 36 (.tmp 10)) (.agg NN24) (fun o ho w2 hw => exec_load_of _ 36 (.tmp 10) ho ⟨gq44s1, 0, none⟩ rfl _ (loadA24 INN24 (hw.get (gq44s1) NN24 36 (by simp)))) HDq60x1 ?_
    simp only [Act.put, sT, sS, sZ]
    refine tkL 3 (some 54) (.load 36 (.tmp 8)) (.agg NN20) (fun o ho w2 hw => exec_load_of _ 36 (.tmp 8) ho ⟨gq34s0, 0, none⟩ rfl _ (loadA24 INN20 (hw.get (gq34s0) NN20 36 (by simp)))) HDq60x1 ?_
    simp only [Act.put, sT, sS, sZ]
    refine tkL 4 (some 55) (.load 36 (.tmp 9)) (.agg NN22) (fun o ho w2 hw => exec_load_of _ 36 (.tmp 9) ho ⟨gq44s0, 0, none⟩ rfl _ (loadA24 INN22 (hw.get (gq44s0) NN22 36 (by simp)))) HDq60x1 ?_
    simp only [Act.put, sT, sS, sZ]
    refine tkL 6 (some 57) (.load 36 (.tmp 9)) (.agg NN22) (fun o ho w2 hw => exec_load_of _ 36 (.tmp 9) ho ⟨gq44s0, 0, none⟩ rfl _ (loadA24 INN22 (hw.get (gq44s0) NN22 36 (by simp)))) HDq60x1 ?_
    simp only [Act.put, sT, sS, sZ]
    refine tkL 7 (some 58) (.load 36 (.tmp 10)) (.agg NN24) (fun o ho w2 hw => exec_load_of _ 36 (.tmp 10) ho ⟨gq44s1, 0, none⟩ rfl _ (loadA24 INN24 (hw.get (gq44s1) NN24 36 (by simp)))) HDq60x1 ?_
    simp only [Act.put, sT, sS, sZ]
    refine tkL 9 (some 60) (.load 36 (.tmp 7)) (.agg NN14) (fun o ho w2 hw => exec_load_of _ 36 (.tmp 7) ho ⟨gq25s0, 0, none⟩ rfl _ (loadA24 INN14 (hw.get (gq25s0) NN14 36 (by simp)))) HDq60x1 ?_
    simp only [Act.put, sT, sS, sZ]
    refine tkL 10 (some 61) (.load 36 (.tmp 8)) (.agg NN20) (fun o ho w2 hw => exec_load_of _ 36 (.tmp 8) ho ⟨gq34s0, 0, none⟩ rfl _ (loadA24 INN20 (hw.get (gq34s0) NN20 36 (by simp)))) HDq60x1 ?_
    simp only [Act.put, sT, sS, sZ]
    refine rdy [2] (rcl (some 53) 130 #[.tmp 51, .tmp 52] #[36, 36] #[.agg NN14, .agg NN24] en40 _ (HC27.out _) ?_ ReadyF.nil)
    rintro v wq60x11 ⟨he, hb⟩
    cases he
    have Hq60x12 := HDq60x1.below hb
    clear hb
    refine ⟨Hq60x12, ?_⟩
    simp only [Act.put, sT, sS, sZ]
    refine rdy [5] (rcl (some 56) 130 #[.tmp 54, .tmp 55] #[36, 36] #[.agg NN20, .agg NN22] en40 _ (HC29.out _) ?_ ReadyF.nil)
    rintro v wq60x13 ⟨he, hb⟩
    cases he
    have Hq60x14 := Hq60x12.below hb
    clear hb
    refine ⟨Hq60x14, ?_⟩
    simp only [Act.put, sT, sS, sZ]
    refine rdy [8] (rcl (some 59) 130 #[.tmp 57, .tmp 58] #[36, 36] #[.agg NN22, .agg NN24] en40 _ (HC31.out _) ?_ ReadyF.nil)
    rintro v wq60x15 ⟨he, hb⟩
    cases he
    have Hq60x16 := Hq60x14.below hb
    clear hb
    refine ⟨Hq60x16, ?_⟩
    simp only [Act.put, sT, sS, sZ]
    refine rdy [11] (rcl (some 62) 130 #[.tmp 60, .tmp 61] #[36, 36] #[.agg NN14, .agg NN20] en40 _ (HC33.out _) ?_ ReadyF.nil)
    rintro v wq60x17 ⟨he, hb⟩
    cases he
    have Hq60x18 := Hq60x16.below hb
    clear hb
    refine ⟨Hq60x18, ?_⟩
    simp only [Act.put, sT, sS, sZ]
    refine tkL 12 (some 63) (.build 103 #[(0, .tmp 53), (1, .tmp 56), (2, .tmp 59), (3, .tmp 62)]) (.agg PP35) (fun o ho w2 hw => exec_buildN _ 103 #[(0, .tmp 53), (1, .tmp 56), (2, .tmp 59), (3, .tmp 62)] ho #[(0, .agg NN26), (1, .agg NN28), (2, .agg NN30), (3, .agg NN32)] (by simp [Act.eval]) _ (BF34 _)) Hq60x18 ?_
    simp only [Act.put, sT, sS, sZ]
    refine rdy [13] (ReadyF.last (.store 103 (.tmp 4) (.tmp 63)) rfl (fun o ho => exec_storeT66 wq60x17 (.tmp 4) (.tmp 63) ho (g9) rfl PP35 IPP35 rfl ZR1 103 (Hq60x18.get (g9) ZR1 103 (by simp)) SZZR1) ?_ ReadyF.nil)
    refine any_doneF (by kernel_rfl) ?_ _
    have Hq60x19 : Kt w [(g9, PP35, 103), (gq25s0, NN14, 36), (gq34s0, NN20, 36), (gq44s0, NN22, 36), (gq44s1, NN24, 36)] (wq60x17.setRow (g9) PP35) := Hq60x18.set (g9) PP35 ZR1 103 (Hq60x18.get (g9) ZR1 103 (by simp)) (by omega) (fun p hp => by simp at hp; rcases hp with rfl | rfl | rfl | rfl | rfl <;> first | exact .inl rfl | exact .inr ⟨by simp, by simp only; omega⟩)
    refine nrm_intro ⟨rfl, Hq60x19.sub (fun p hp => by simp at hp; subst hp; simp)⟩
  rintro a' w61 ⟨rfl, hk⟩
  have HS62 := Lib.hid hk
  clear hk HS46
  go_wp2
  exact bodyPost_ret (results_cell rfl _ _ _ ⟨g9, 0, none⟩ rfl _ (loadT66 IPP35 (HS62.out.get (g9) PP35 103 (by simp)))) rfl ⟨rfl, HS62.out.1⟩
end Go.Proofs.YtdajmekliodmcaaGreatDoor.P8
