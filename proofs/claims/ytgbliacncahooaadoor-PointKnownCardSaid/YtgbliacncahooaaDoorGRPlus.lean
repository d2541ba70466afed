/- plus of the document: a sum of points with a denominator. No condition but that the numbers have 256 bits. -/
import Derived.Test.YtgbliacncahooaaDoorGPtA
namespace Go.Proofs.YtgbliacncahooaaDoor
open Go.RowKit Go.Shelf
set_option linter.unusedVariables false
set_option linter.unusedSimpArgs false
set_option maxRecDepth 100000 in
set_option maxHeartbeats 2000000 in
theorem rplus_any (x1 y1 z1 x2 y2 z2 d : Nat) (hx1 : x1 < 115792089237316195423570985008687907853269984665640564039457584007913129639936) (hy1 : y1 < 115792089237316195423570985008687907853269984665640564039457584007913129639936) (hz1 : z1 < 115792089237316195423570985008687907853269984665640564039457584007913129639936) (hx2 : x2 < 115792089237316195423570985008687907853269984665640564039457584007913129639936) (hy2 : y2 < 115792089237316195423570985008687907853269984665640564039457584007913129639936) (hz2 : z2 < 115792089237316195423570985008687907853269984665640564039457584007913129639936) (hd : d < 115792089237316195423570985008687907853269984665640564039457584007913129639936) (w : World) :
    Calls Tryd.prog 47 #[.agg (num x1 ++ num y1 ++ num z1), .agg (num x2 ++ num y2 ++ num z2), .agg (num d)] w fun e w' => e = .returned (.agg (num (mulF (mulF (mulF z1 z2) (subF (mulF (mulF z1 z2) (mulF z1 z2)) (mulF d (mulF (mulF x1 x2) (mulF y1 y2))))) (subF (subF (mulF (addF x1 y1) (addF x2 y2)) (mulF x1 x2)) (mulF y1 y2))) ++ num (mulF (mulF (mulF z1 z2) (addF (mulF (mulF z1 z2) (mulF z1 z2)) (mulF d (mulF (mulF x1 x2) (mulF y1 y2))))) (addF (mulF x1 x2) (mulF y1 y2))) ++ num (mulF (subF (mulF (mulF z1 z2) (mulF z1 z2)) (mulF d (mulF (mulF x1 x2) (mulF y1 y2)))) (addF (mulF (mulF z1 z2) (mulF z1 z2)) (mulF d (mulF (mulF x1 x2) (mulF y1 y2))))))) ∧ Below w.heap.size w w' := by
  have HC3 := Lib.hid (rmulf_any (z1) (z2) hz1 hz2)
  have HC6 := Lib.hid (rmulf_any (mulF (z1) (z2)) (mulF (z1) (z2)) (pp_lt (mulF_lt _ _)) (pp_lt (mulF_lt _ _)))
  have HC8 := Lib.hid (rmulf_any (x1) (x2) hx1 hx2)
  have HC10 := Lib.hid (rmulf_any (y1) (y2) hy1 hy2)
  have HC12 := Lib.hid (rmulf_any (mulF (x1) (x2)) (mulF (y1) (y2)) (pp_lt (mulF_lt _ _)) (pp_lt (mulF_lt _ _)))
  have HC14 := Lib.hid (rmulf_any (d) (mulF (mulF (x1) (x2)) (mulF (y1) (y2))) hd (pp_lt (mulF_lt _ _)))
  have HC16 := Lib.hid (rsub_any (mulF (mulF (z1) (z2)) (mulF (z1) (z2))) (mulF (d) (mulF (mulF (x1) (x2)) (mulF (y1) (y2)))) (pp_lt (mulF_lt _ _)) (pp_lt (mulF_lt _ _)))
  have HC18 := Lib.hid (radd_any (mulF (mulF (z1) (z2)) (mulF (z1) (z2))) (mulF (d) (mulF (mulF (x1) (x2)) (mulF (y1) (y2)))) (pp_lt (mulF_lt _ _)) (pp_lt (mulF_lt _ _)))
  have HC20 := Lib.hid (radd_any (x1) (y1) hx1 hy1)
  have HC22 := Lib.hid (radd_any (x2) (y2) hx2 hy2)
  have HC24 := Lib.hid (rmulf_any (addF (x1) (y1)) (addF (x2) (y2)) (pp_lt (addF_lt _ _)) (pp_lt (addF_lt _ _)))
  have HC26 := Lib.hid (rsub_any (mulF (addF (x1) (y1)) (addF (x2) (y2))) (mulF (x1) (x2)) (pp_lt (mulF_lt _ _)) (pp_lt (mulF_lt _ _)))
  have HC28 := Lib.hid (rsub_any (subF (mulF (addF (x1) (y1)) (addF (x2) (y2))) (mulF (x1) (x2))) (mulF (y1) (y2)) (pp_lt (subF_lt _ _)) (pp_lt (mulF_lt _ _)))
  have HC30 := Lib.hid (rmulf_any (mulF (z1) (z2)) (subF (mulF (mulF (z1) (z2)) (mulF (z1) (z2))) (mulF (d) (mulF (mulF (x1) (x2)) (mulF (y1) (y2))))) (pp_lt (mulF_lt _ _)) (pp_lt (subF_lt _ _)))
  have HC32 := Lib.hid (rmulf_any (mulF (mulF (z1) (z2)) (subF (mulF (mulF (z1) (z2)) (mulF (z1) (z2))) (mulF (d) (mulF (mulF (x1) (x2)) (mulF (y1) (y2)))))) (subF (subF (mulF (addF (x1) (y1)) (addF (x2) (y2))) (mulF (x1) (x2))) (mulF (y1) (y2))) (pp_lt (mulF_lt _ _)) (pp_lt (subF_lt _ _)))
  have HC34 := Lib.hid (rmulf_any (mulF (z1) (z2)) (addF (mulF (mulF (z1) (z2)) (mulF (z1) (z2))) (mulF (d) (mulF (mulF (x1) (x2)) (mulF (y1) (y2))))) (pp_lt (mulF_lt _ _)) (pp_lt (addF_lt _ _)))
  have HC36 := Lib.hid (radd_any (mulF (x1) (x2)) (mulF (y1) (y2)) (pp_lt (mulF_lt _ _)) (pp_lt (mulF_lt _ _)))
  have HC38 := Lib.hid (rmulf_any (mulF (mulF (z1) (z2)) (addF (mulF (mulF (z1) (z2)) (mulF (z1) (z2))) (mulF (d) (mulF (mulF (x1) (x2)) (mulF (y1) (y2)))))) (addF (mulF (x1) (x2)) (mulF (y1) (y2))) (pp_lt (mulF_lt _ _)) (pp_lt (addF_lt _ _)))
  have HC40 := Lib.hid (rmulf_any (subF (mulF (mulF (z1) (z2)) (mulF (z1) (z2))) (mulF (d) (mulF (mulF (x1) (x2)) (mulF (y1) (y2))))) (addF (mulF (mulF (z1) (z2)) (mulF (z1) (z2))) (mulF (d) (mulF (mulF (x1) (x2)) (mulF (y1) (y2))))) (pp_lt (subF_lt _ _)) (pp_lt (addF_lt _ _)))
  obtain ⟨X10, hX10⟩ : ∃ zz9, Hid (zz9 = num (x1)) := ⟨_, Lib.hid rfl⟩
  have IX10 : IsNum X10 := by rw [hX10.out]; exact isNum _
  obtain ⟨Y10, hY10⟩ : ∃ zz9, Hid (zz9 = num (y1)) := ⟨_, Lib.hid rfl⟩
  have IY10 : IsNum Y10 := by rw [hY10.out]; exact isNum _
  obtain ⟨Z10, hZ10⟩ : ∃ zz9, Hid (zz9 = num (z1)) := ⟨_, Lib.hid rfl⟩
  have IZ10 : IsNum Z10 := by rw [hZ10.out]; exact isNum _
  obtain ⟨X20, hX20⟩ : ∃ zz9, Hid (zz9 = num (x2)) := ⟨_, Lib.hid rfl⟩
  have IX20 : IsNum X20 := by rw [hX20.out]; exact isNum _
  obtain ⟨Y20, hY20⟩ : ∃ zz9, Hid (zz9 = num (y2)) := ⟨_, Lib.hid rfl⟩
  have IY20 : IsNum Y20 := by rw [hY20.out]; exact isNum _
  obtain ⟨Z20, hZ20⟩ : ∃ zz9, Hid (zz9 = num (z2)) := ⟨_, Lib.hid rfl⟩
  have IZ20 : IsNum Z20 := by rw [hZ20.out]; exact isNum _
  obtain ⟨D0, hD0⟩ : ∃ zz9, Hid (zz9 = num (d)) := ⟨_, Lib.hid rfl⟩
  have ID0 : IsNum D0 := by rw [hD0.out]; exact isNum _
  obtain ⟨PA, hPA⟩ : ∃ zz9, Hid (zz9 = X10 ++ Y10 ++ Z10) := ⟨_, Lib.hid rfl⟩
  have IPA : IsRw 12 PA := by rw [hPA.out]; exact rw_app (rw_app (isRw4 IX10) (isRw4 IY10)) (isRw4 IZ10)
  have SPA_0 : Part PA 0 X10 := by rw [hPA.out]; exact part_left 0 (part_left 0 (part_all X10) Y10) Z10
  have SPA_4 : Part PA 4 Y10 := by rw [hPA.out]; exact part_left 4 (part_right (X10) Y10 4 (by simp [IX10.size])) Z10
  have SPA_8 : Part PA 8 Z10 := by rw [hPA.out]; exact part_right (X10 ++ Y10) Z10 8 (by simp [IX10.size, IY10.size])
  obtain ⟨PB, hPB⟩ : ∃ zz9, Hid (zz9 = X20 ++ Y20 ++ Z20) := ⟨_, Lib.hid rfl⟩
  have IPB : IsRw 12 PB := by rw [hPB.out]; exact rw_app (rw_app (isRw4 IX20) (isRw4 IY20)) (isRw4 IZ20)
  have SPB_0 : Part PB 0 X20 := by rw [hPB.out]; exact part_left 0 (part_left 0 (part_all X20) Y20) Z20
  have SPB_4 : Part PB 4 Y20 := by rw [hPB.out]; exact part_left 4 (part_right (X20) Y20 4 (by simp [IX20.size])) Z20
  have SPB_8 : Part PB 8 Z20 := by rw [hPB.out]; exact part_right (X20 ++ Y20) Z20 8 (by simp [IX20.size, IY20.size])
  obtain ⟨ZR1, hZR1⟩ : ∃ zz9, Hid (zz9 = (rowOf .u64 12 (fun _ => 0)).toArray) := ⟨_, Lib.hid rfl⟩
  have SZZR1 : ZR1.size = 12 := by rw [hZR1.out]; rfl
  obtain ⟨NN2, hNN2⟩ : ∃ zz9, Hid (zz9 = num (mulF (z1) (z2))) := ⟨_, Lib.hid rfl⟩
  have INN2 : IsNum NN2 := by rw [hNN2.out]; exact isNum _
  obtain ⟨NN4, hNN4⟩ : ∃ zz9, Hid (zz9 = num (0)) := ⟨_, Lib.hid rfl⟩
  have INN4 : IsNum NN4 := by rw [hNN4.out]; exact isNum _
  obtain ⟨NN5, hNN5⟩ : ∃ zz9, Hid (zz9 = num (mulF (mulF (z1) (z2)) (mulF (z1) (z2)))) := ⟨_, Lib.hid rfl⟩
  have INN5 : IsNum NN5 := by rw [hNN5.out]; exact isNum _
  obtain ⟨NN7, hNN7⟩ : ∃ zz9, Hid (zz9 = num (mulF (x1) (x2))) := ⟨_, Lib.hid rfl⟩
  have INN7 : IsNum NN7 := by rw [hNN7.out]; exact isNum _
  obtain ⟨NN9, hNN9⟩ : ∃ zz9, Hid (zz9 = num (mulF (y1) (y2))) := ⟨_, Lib.hid rfl⟩
  have INN9 : IsNum NN9 := by rw [hNN9.out]; exact isNum _
  obtain ⟨NN11, hNN11⟩ : ∃ zz9, Hid (zz9 = num (mulF (mulF (x1) (x2)) (mulF (y1) (y2)))) := ⟨_, Lib.hid rfl⟩
  have INN11 : IsNum NN11 := by rw [hNN11.out]; exact isNum _
  obtain ⟨NN13, hNN13⟩ : ∃ zz9, Hid (zz9 = num (mulF (d) (mulF (mulF (x1) (x2)) (mulF (y1) (y2))))) := ⟨_, Lib.hid rfl⟩
  have INN13 : IsNum NN13 := by rw [hNN13.out]; exact isNum _
  obtain ⟨NN15, hNN15⟩ : ∃ zz9, Hid (zz9 = num (subF (mulF (mulF (z1) (z2)) (mulF (z1) (z2))) (mulF (d) (mulF (mulF (x1) (x2)) (mulF (y1) (y2)))))) := ⟨_, Lib.hid rfl⟩
  have INN15 : IsNum NN15 := by rw [hNN15.out]; exact isNum _
  obtain ⟨NN17, hNN17⟩ : ∃ zz9, Hid (zz9 = num (addF (mulF (mulF (z1) (z2)) (mulF (z1) (z2))) (mulF (d) (mulF (mulF (x1) (x2)) (mulF (y1) (y2)))))) := ⟨_, Lib.hid rfl⟩
  have INN17 : IsNum NN17 := by rw [hNN17.out]; exact isNum _
  obtain ⟨NN19, hNN19⟩ : ∃ zz9, Hid (zz9 = num (addF (x1) (y1))) := ⟨_, Lib.hid rfl⟩
  have INN19 : IsNum NN19 := by rw [hNN19.out]; exact isNum _
  obtain ⟨NN21, hNN21⟩ : ∃ zz9, Hid (zz9 = num (addF (x2) (y2))) := ⟨_, Lib.hid rfl⟩
  have INN21 : IsNum NN21 := by rw [hNN21.out]; exact isNum _
  obtain ⟨NN23, hNN23⟩ : ∃ zz9, Hid (zz9 = num (mulF (addF (x1) (y1)) (addF (x2) (y2)))) := ⟨_, Lib.hid rfl⟩
  have INN23 : IsNum NN23 := by rw [hNN23.out]; exact isNum _
  obtain ⟨NN25, hNN25⟩ : ∃ zz9, Hid (zz9 = num (subF (mulF (addF (x1) (y1)) (addF (x2) (y2))) (mulF (x1) (x2)))) := ⟨_, Lib.hid rfl⟩
  have INN25 : IsNum NN25 := by rw [hNN25.out]; exact isNum _
  obtain ⟨NN27, hNN27⟩ : ∃ zz9, Hid (zz9 = num (subF (subF (mulF (addF (x1) (y1)) (addF (x2) (y2))) (mulF (x1) (x2))) (mulF (y1) (y2)))) := ⟨_, Lib.hid rfl⟩
  have INN27 : IsNum NN27 := by rw [hNN27.out]; exact isNum _
  obtain ⟨NN29, hNN29⟩ : ∃ zz9, Hid (zz9 = num (mulF (mulF (z1) (z2)) (subF (mulF (mulF (z1) (z2)) (mulF (z1) (z2))) (mulF (d) (mulF (mulF (x1) (x2)) (mulF (y1) (y2))))))) := ⟨_, Lib.hid rfl⟩
  have INN29 : IsNum NN29 := by rw [hNN29.out]; exact isNum _
  obtain ⟨NN31, hNN31⟩ : ∃ zz9, Hid (zz9 = num (mulF (mulF (mulF (z1) (z2)) (subF (mulF (mulF (z1) (z2)) (mulF (z1) (z2))) (mulF (d) (mulF (mulF (x1) (x2)) (mulF (y1) (y2)))))) (subF (subF (mulF (addF (x1) (y1)) (addF (x2) (y2))) (mulF (x1) (x2))) (mulF (y1) (y2))))) := ⟨_, Lib.hid rfl⟩
  have INN31 : IsNum NN31 := by rw [hNN31.out]; exact isNum _
  obtain ⟨NN33, hNN33⟩ : ∃ zz9, Hid (zz9 = num (mulF (mulF (z1) (z2)) (addF (mulF (mulF (z1) (z2)) (mulF (z1) (z2))) (mulF (d) (mulF (mulF (x1) (x2)) (mulF (y1) (y2))))))) := ⟨_, Lib.hid rfl⟩
  have INN33 : IsNum NN33 := by rw [hNN33.out]; exact isNum _
  obtain ⟨NN35, hNN35⟩ : ∃ zz9, Hid (zz9 = num (addF (mulF (x1) (x2)) (mulF (y1) (y2)))) := ⟨_, Lib.hid rfl⟩
  have INN35 : IsNum NN35 := by rw [hNN35.out]; exact isNum _
  obtain ⟨NN37, hNN37⟩ : ∃ zz9, Hid (zz9 = num (mulF (mulF (mulF (z1) (z2)) (addF (mulF (mulF (z1) (z2)) (mulF (z1) (z2))) (mulF (d) (mulF (mulF (x1) (x2)) (mulF (y1) (y2)))))) (addF (mulF (x1) (x2)) (mulF (y1) (y2))))) := ⟨_, Lib.hid rfl⟩
  have INN37 : IsNum NN37 := by rw [hNN37.out]; exact isNum _
  obtain ⟨NN39, hNN39⟩ : ∃ zz9, Hid (zz9 = num (mulF (subF (mulF (mulF (z1) (z2)) (mulF (z1) (z2))) (mulF (d) (mulF (mulF (x1) (x2)) (mulF (y1) (y2))))) (addF (mulF (mulF (z1) (z2)) (mulF (z1) (z2))) (mulF (d) (mulF (mulF (x1) (x2)) (mulF (y1) (y2))))))) := ⟨_, Lib.hid rfl⟩
  have INN39 : IsNum NN39 := by rw [hNN39.out]; exact isNum _
  obtain ⟨PP42, hPP42⟩ : ∃ zz9, Hid (zz9 = NN31 ++ NN37 ++ NN39) := ⟨_, Lib.hid rfl⟩
  have IPP42 : IsRw 12 PP42 := by rw [hPP42.out]; exact rw_app (rw_app (isRw4 INN31) (isRw4 INN37)) (isRw4 INN39)
  have SPP42_0 : Part PP42 0 NN31 := by rw [hPP42.out]; exact part_left 0 (part_left 0 (part_all NN31) NN37) NN39
  have SPP42_4 : Part PP42 4 NN37 := by rw [hPP42.out]; exact part_left 4 (part_right (NN31) NN37 4 (by simp [INN31.size])) NN39
  have SPP42_8 : Part PP42 8 NN39 := by rw [hPP42.out]; exact part_right (NN31 ++ NN37) NN39 8 (by simp [INN31.size, INN37.size])
  have HZ71 : ∀ w, (zeroValue 71).run Tryd.prog w = .ok (.agg ZR1) w := by rw [hZR1.out]; exact zeroT71
  have HZ24 : ∀ w, (zeroValue 24).run Tryd.prog w = .ok (.agg NN4) w := by rw [hNN4.out]; exact zero_run
  have SZNN4 := INN4.size
  have BF41 : ∀ w, (Instr.build 71 #[(0, .agg NN31), (1, .agg NN37), (2, .agg NN39)]).run Tryd.prog w = .ok (.agg PP42) w := by rw [hPP42.out]; exact bt012 INN31 INN37 INN39
  try simp only [← hX10.out, ← hY10.out, ← hZ10.out, ← hX20.out, ← hY20.out, ← hZ20.out, ← hD0.out, ← hNN2.out, ← hNN4.out, ← hNN5.out, ← hNN7.out, ← hNN9.out, ← hNN11.out, ← hNN13.out, ← hNN15.out, ← hNN17.out, ← hNN19.out, ← hNN21.out, ← hNN23.out, ← hNN25.out, ← hNN27.out, ← hNN29.out, ← hNN31.out, ← hNN33.out, ← hNN35.out, ← hNN37.out, ← hNN39.out] at HC3 HC6 HC8 HC10 HC12 HC14 HC16 HC18 HC20 HC22 HC24 HC26 HC28 HC30 HC32 HC34 HC36 HC38 HC40 ⊢
  try simp only [← hPA.out, ← hPB.out, ← hZR1.out, ← hPP42.out] at HC3 HC6 HC8 HC10 HC12 HC14 HC16 HC18 HC20 HC22 HC24 HC26 HC28 HC30 HC32 HC34 HC36 HC38 HC40 ⊢
  clear hX10 hY10 hZ10 hX20 hY20 hZ20 hD0 hPA hPB hZR1 hNN2 hNN4 hNN5 hNN7 hNN9 hNN11 hNN13 hNN15 hNN17 hNN19 hNN21 hNN23 hNN25 hNN27 hNN29 hNN31 hNN33 hNN35 hNN37 hNN39 hPP42 hx1 hy1 hz1 hx2 hy2 hz2 hd
  go_enter Tryd.func47, Tryd.ntmps47
  have HS : Hid (Kt w [] w) := Lib.hid (Kt.nil w)
  go_upto_region 0 with fail
  refine wp_region_list ?_
  refine wpList_run rfl _ (exec_box _ 71 (.tmp 0) rfl _ rfl (PA) rfl) ?_
  simp only [Act.put, sT, sS, sZ]
  have bg3 := HS.out.1.size
  have HS2 := Lib.hid (HS.out.new PA 71)
  clear HS
  generalize w.alloc (.cells PA 71) = w1 at *
  refine wpList_run rfl _ (exec_box _ 71 (.tmp 1) rfl _ rfl (PB) rfl) ?_
  simp only [Act.put, sT, sS, sZ]
  have lg6_0 := HS2.out.lt (w.heap.size) PA 71 (by simp)
  have bg6 := HS2.out.1.size
  have HS5 := Lib.hid (HS2.out.new PB 71)
  clear HS2
  generalize w1.alloc (.cells PB 71) = w4 at *
  generalize w1.heap.size = g6 at *
  refine wpList_run rfl _ (exec_box _ 24 (.tmp 2) rfl _ rfl (D0) rfl) ?_
  simp only [Act.put, sT, sS, sZ]
  have lg9_0 := HS5.out.lt (g6) PB 71 (by simp)
  have lg9_1 := HS5.out.lt (w.heap.size) PA 71 (by simp)
  have bg9 := HS5.out.1.size
  have HS8 := Lib.hid (HS5.out.new D0 24)
  clear HS5
  generalize w4.alloc (.cells D0 24) = w7 at *
  generalize w4.heap.size = g9 at *
  refine wpList_run rfl _ (exec_alloc_agg _ 71 rfl _ (HZ71 _)) ?_
  simp only [Act.put, sT, sS, sZ]
  have lg12_0 := HS8.out.lt (g9) D0 24 (by simp)
  have lg12_1 := HS8.out.lt (g6) PB 71 (by simp)
  have lg12_2 := HS8.out.lt (w.heap.size) PA 71 (by simp)
  have bg12 := HS8.out.1.size
  have HS11 := Lib.hid (HS8.out.new ZR1 71)
  clear HS8
  generalize w7.alloc (.cells ZR1 71) = w10 at *
  generalize w7.heap.size = g12 at *
  refine wpList_nil ?_
  go_upto_region 1 with fail
  refine wp_region_list ?_
  refine wpList_run rfl (.pointer (some ⟨w.heap.size, 8, none⟩)) (exec_field 71 (.tmp 3) 2 rfl _ _ rfl _ (fa71_2 (w.heap.size) _)) ?_
  simp only [Act.put, sT, sS, sZ]
  refine wpList_run rfl (.agg Z10) (exec_load_of _ 24 (.tmp 15) rfl ⟨w.heap.size, 8, none⟩ rfl _ (load_part (HS11.out.get (w.heap.size) PA 71 (by simp)) IZ10 8 SPA_8)) ?_
  simp only [Act.put, sT, sS, sZ]
  refine wpList_run rfl (.pointer (some ⟨g6, 8, none⟩)) (exec_field 71 (.tmp 4) 2 rfl _ _ rfl _ (fa71_2 (g6) _)) ?_
  simp only [Act.put, sT, sS, sZ]
  refine wpList_run rfl (.agg Z20) (exec_load_of _ 24 (.tmp 17) rfl ⟨g6, 8, none⟩ rfl _ (load_part (HS11.out.get (g6) PB 71 (by simp)) IZ20 8 SPB_8)) ?_
  simp only [Act.put, sT, sS, sZ]
  refine wpList_callF rfl 34 #[.tmp 16, .tmp 18] #[24, 24] rfl #[.agg Z10, .agg Z20] en34 (HC3.out _) ?_
  rintro v w13 ⟨he, hb⟩
  cases he
  have HS14 := Lib.hid (HS11.out.below hb)
  clear hb HS11
  simp only [Act.put, sT, sS, sZ]
  refine wpList_run rfl _ (exec_alloc_agg _ 24 rfl _ (HZ24 _)) ?_
  simp only [Act.put, sT, sS, sZ]
  have lg17_0 := HS14.out.lt (g12) ZR1 71 (by simp)
  have lg17_1 := HS14.out.lt (g9) D0 24 (by simp)
  have lg17_2 := HS14.out.lt (g6) PB 71 (by simp)
  have lg17_3 := HS14.out.lt (w.heap.size) PA 71 (by simp)
  have bg17 := HS14.out.1.size
  have HS16 := Lib.hid (HS14.out.new NN4 24)
  clear HS14
  generalize w13.alloc (.cells NN4 24) = w15 at *
  generalize w13.heap.size = g17 at *
  refine wpList_run0 rfl (exec_store24 _ (.tmp 7) (.tmp 19) rfl (g17) rfl NN2 INN2 rfl NN4 24 (HS16.out.get (g17) NN4 24 (by simp)) SZNN4) ?_
  simp only [Act.put, sT, sS, sZ]
  have HS19 : Hid (Kt w [(g17, NN2, 24), (g12, ZR1, 71), (g9, D0, 24), (g6, PB, 71), (w.heap.size, PA, 71)] (w15.setRow (g17) NN2)) := Lib.hid (HS16.out.set (g17) NN2 NN4 24 (HS16.out.get (g17) NN4 24 (by simp)) (by omega) (fun p hp => by simp at hp; rcases hp with rfl | rfl | rfl | rfl | rfl <;> first | exact .inl rfl | exact .inr ⟨by simp, by simp only; omega⟩))
  clear HS16
  generalize w15.setRow (g17) NN2 = w18 at *
  refine wpList_nil ?_
  go_upto_region 2 with fail
  refine wp_region_list ?_
  refine wpList_run rfl (.agg NN2) (exec_load_of _ 24 (.tmp 7) rfl ⟨g17, 0, none⟩ rfl _ (loadA24 INN2 (HS19.out.get (g17) NN2 24 (by simp)))) ?_
  simp only [Act.put, sT, sS, sZ]
  refine wpList_run rfl (.agg NN2) (exec_load_of _ 24 (.tmp 7) rfl ⟨g17, 0, none⟩ rfl _ (loadA24 INN2 (HS19.out.get (g17) NN2 24 (by simp)))) ?_
  simp only [Act.put, sT, sS, sZ]
  refine wpList_callF rfl 34 #[.tmp 20, .tmp 21] #[24, 24] rfl #[.agg NN2, .agg NN2] en34 (HC6.out _) ?_
  rintro v w20 ⟨he, hb⟩
  cases he
  have HS21 := Lib.hid (HS19.out.below hb)
  clear hb HS19
  simp only [Act.put, sT, sS, sZ]
  refine wpList_run rfl _ (exec_alloc_agg _ 24 rfl _ (HZ24 _)) ?_
  simp only [Act.put, sT, sS, sZ]
  have lg24_0 := HS21.out.lt (g17) NN2 24 (by simp)
  have lg24_1 := HS21.out.lt (g12) ZR1 71 (by simp)
  have lg24_2 := HS21.out.lt (g9) D0 24 (by simp)
  have lg24_3 := HS21.out.lt (g6) PB 71 (by simp)
  have lg24_4 := HS21.out.lt (w.heap.size) PA 71 (by simp)
  have bg24 := HS21.out.1.size
  have HS23 := Lib.hid (HS21.out.new NN4 24)
  clear HS21
  generalize w20.alloc (.cells NN4 24) = w22 at *
  generalize w20.heap.size = g24 at *
  refine wpList_run0 rfl (exec_store24 _ (.tmp 8) (.tmp 22) rfl (g24) rfl NN5 INN5 rfl NN4 24 (HS23.out.get (g24) NN4 24 (by simp)) SZNN4) ?_
  simp only [Act.put, sT, sS, sZ]
  have HS26 : Hid (Kt w [(g24, NN5, 24), (g17, NN2, 24), (g12, ZR1, 71), (g9, D0, 24), (g6, PB, 71), (w.heap.size, PA, 71)] (w22.setRow (g24) NN5)) := Lib.hid (HS23.out.set (g24) NN5 NN4 24 (HS23.out.get (g24) NN4 24 (by simp)) (by omega) (fun p hp => by simp at hp; rcases hp with rfl | rfl | rfl | rfl | rfl | rfl <;> first | exact .inl rfl | exact .inr ⟨by simp, by simp only; omega⟩))
  clear HS23
  generalize w22.setRow (g24) NN5 = w25 at *
  refine wpList_nil ?_
  go_upto_region 3 with fail
  refine wp_cut (fun a' W' => ∃ gq27s0 gq27s1, a' = { tmps := #[.agg PA, .agg PB, .agg D0, .pointer (some ⟨w.heap.size, 0, none⟩), .pointer (some ⟨g6, 0, none⟩), .pointer (some ⟨g9, 0, none⟩), .pointer (some ⟨g12, 0, none⟩), .pointer (some ⟨g17, 0, none⟩), .pointer (some ⟨g24, 0, none⟩), .pointer (some ⟨gq27s0, 0, none⟩), .pointer (some ⟨gq27s1, 0, none⟩), undef, undef, undef, undef, .pointer (some ⟨w.heap.size, 8, none⟩), .agg Z10, .pointer (some ⟨g6, 8, none⟩), .agg Z20, .agg NN2, .agg NN2, .agg NN2, .agg NN5, .pointer (some ⟨w.heap.size, 0, none⟩), .agg X10, .pointer (some ⟨g6, 0, none⟩), .agg X20, .agg NN7, .pointer (some ⟨w.heap.size, 4, none⟩), .agg Y10, .pointer (some ⟨g6, 4, none⟩), .agg Y20, .agg NN9, undef, undef, undef, undef, undef, undef, undef, undef, undef, undef, undef, undef, undef, undef, undef, undef, undef, undef, undef, undef, undef, undef, undef, undef, undef, undef, undef, undef, undef, undef, undef, undef, undef, undef, undef, undef, undef, undef, undef, undef, undef, undef], defers := [] } ∧ Kt w [(g24, NN5, 24), (g17, NN2, 24), (g12, ZR1, 71), (g9, D0, 24), (g6, PB, 71), (w.heap.size, PA, 71), (gq27s0, NN7, 24), (gq27s1, NN9, 24)] W' ∧ w.heap.size ≤ gq27s0 ∧ w.heap.size ≤ gq27s1 ∧ gq27s0 ≠ g24 ∧ gq27s0 ≠ g17 ∧ gq27s0 ≠ g12 ∧ gq27s0 ≠ g9 ∧ gq27s0 ≠ g6 ∧ gq27s0 ≠ w.heap.size ∧ gq27s1 ≠ g24 ∧ gq27s1 ≠ g17 ∧ gq27s1 ≠ g12 ∧ gq27s1 ≠ g9 ∧ gq27s1 ≠ g6 ∧ gq27s1 ≠ w.heap.size ∧ gq27s1 ≠ gq27s0) ?_ ?_
  · refine wp_region_any (by kernel_rfl) ?_
    change wpAny _ _ _ _ _ _ _ (World.drew _)
    have HDq27x1 := HS26.out.drew
    clear HS26
    generalize w25.drew = wdq27x2 at *
    refine any_of_F (S := Kt w [(g24, NN5, 24), (g17, NN2, 24), (g12, ZR1, 71), (g9, D0, 24), (g6, PB, 71), (w.heap.size, PA, 71)]) (f := 1000) _ _ _ _ ?_
    refine F_have 2 #[true, true, true, true, true, true, true, true, true, true, true, true, false, false] (fun a W => ∃ gjq27_0_0 gjq27_0_1, a = { tmps := #[.agg PA, .agg PB, .agg D0, .pointer (some ⟨w.heap.size, 0, none⟩), .pointer (some ⟨g6, 0, none⟩), .pointer (some ⟨g9, 0, none⟩), .pointer (some ⟨g12, 0, none⟩), .pointer (some ⟨g17, 0, none⟩), .pointer (some ⟨g24, 0, none⟩), .pointer (some ⟨gjq27_0_0, 0, none⟩), .pointer (some ⟨gjq27_0_1, 0, none⟩), undef, undef, undef, undef, .pointer (some ⟨w.heap.size, 8, none⟩), .agg Z10, .pointer (some ⟨g6, 8, none⟩), .agg Z20, .agg NN2, .agg NN2, .agg NN2, .agg NN5, .pointer (some ⟨w.heap.size, 0, none⟩), .agg X10, .pointer (some ⟨g6, 0, none⟩), .agg X20, .agg NN7, .pointer (some ⟨w.heap.size, 4, none⟩), .agg Y10, .pointer (some ⟨g6, 4, none⟩), .agg Y20, .agg NN9, undef, undef, undef, undef, undef, undef, undef, undef, undef, undef, undef, undef, undef, undef, undef, undef, undef, undef, undef, undef, undef, undef, undef, undef, undef, undef, undef, undef, undef, undef, undef, undef, undef, undef, undef, undef, undef, undef, undef, undef, undef, undef], defers := [] } ∧ Kt w [(g24, NN5, 24), (g17, NN2, 24), (g12, ZR1, 71), (g9, D0, 24), (g6, PB, 71), (w.heap.size, PA, 71)] W ∧ Kt w [(gjq27_0_0, NN4, 24), (gjq27_0_1, NN4, 24)] W ∧ w.heap.size ≤ gjq27_0_0 ∧ w.heap.size ≤ gjq27_0_1 ∧ gjq27_0_0 ≠ g24 ∧ gjq27_0_0 ≠ g17 ∧ gjq27_0_0 ≠ g12 ∧ gjq27_0_0 ≠ g9 ∧ gjq27_0_0 ≠ g6 ∧ gjq27_0_0 ≠ w.heap.size ∧ gjq27_0_1 ≠ g24 ∧ gjq27_0_1 ≠ g17 ∧ gjq27_0_1 ≠ g12 ∧ gjq27_0_1 ≠ g9 ∧ gjq27_0_1 ≠ g6 ∧ gjq27_0_1 ≠ w.heap.size ∧ gjq27_0_1 ≠ gjq27_0_0) ?_ ?_
    · rintro a wq27x11 ⟨gjq27_0_0, gjq27_0_1, rfl, Hq27x12, Eq27x13, fJq27_0_0, fJq27_0_1, fJq27_0_2, fJq27_0_3, fJq27_0_4, fJq27_0_5, fJq27_0_6, fJq27_0_7, fJq27_0_8, fJq27_0_9, fJq27_0_10, fJq27_0_11, fJq27_0_12, fJq27_0_13, fJq27_0_14⟩
      refine rdy [12] (ReadyF.op0 (.store 24 (.tmp 9) (.tmp 27)) rfl (fun o ho => exec_store24 wq27x11 (.tmp 9) (.tmp 27) ho (gjq27_0_0) rfl NN7 INN7 rfl NN4 24 (Eq27x13.get (gjq27_0_0) NN4 24 (by simp)) SZNN4) (Hq27x12.set (gjq27_0_0) NN7 NN4 24 (Eq27x13.get (gjq27_0_0) NN4 24 (by simp)) (by omega) (fun p hp => by simp at hp; rcases hp with rfl | rfl | rfl | rfl | rfl | rfl <;> exact .inr ⟨by simp, by simp only; omega⟩)) ?_ ReadyF.nil)
      have Hq27x15 := Hq27x12.set (gjq27_0_0) NN7 NN4 24 (Eq27x13.get (gjq27_0_0) NN4 24 (by simp)) (by omega) (m := [(g24, NN5, 24), (g17, NN2, 24), (g12, ZR1, 71), (g9, D0, 24), (g6, PB, 71), (w.heap.size, PA, 71)]) (fun p hp => by simp at hp; rcases hp with rfl | rfl | rfl | rfl | rfl | rfl <;> exact .inr ⟨by simp, by simp only; omega⟩)
      have Eq27x16 := Eq27x13.set (gjq27_0_0) NN7 NN4 24 (Eq27x13.get (gjq27_0_0) NN4 24 (by simp)) (by omega) (m := [(gjq27_0_0, NN7, 24), (gjq27_0_1, NN4, 24)]) (fun p hp => by simp at hp; rcases hp with rfl | rfl <;> first | exact .inl rfl | exact .inr ⟨by simp, by simp only; omega⟩)
      generalize wq27x11.setRow (gjq27_0_0) NN7 = wq27x14 at *
      refine rdy [13] (ReadyF.op0 (.store 24 (.tmp 10) (.tmp 32)) rfl (fun o ho => exec_store24 wq27x14 (.tmp 10) (.tmp 32) ho (gjq27_0_1) rfl NN9 INN9 rfl NN4 24 (Eq27x16.get (gjq27_0_1) NN4 24 (by simp)) SZNN4) (Hq27x15.set (gjq27_0_1) NN9 NN4 24 (Eq27x16.get (gjq27_0_1) NN4 24 (by simp)) (by omega) (fun p hp => by simp at hp; rcases hp with rfl | rfl | rfl | rfl | rfl | rfl <;> exact .inr ⟨by simp, by simp only; omega⟩)) ?_ ReadyF.nil)
      have Hq27x18 := Hq27x15.set (gjq27_0_1) NN9 NN4 24 (Eq27x16.get (gjq27_0_1) NN4 24 (by simp)) (by omega) (m := [(g24, NN5, 24), (g17, NN2, 24), (g12, ZR1, 71), (g9, D0, 24), (g6, PB, 71), (w.heap.size, PA, 71)]) (fun p hp => by simp at hp; rcases hp with rfl | rfl | rfl | rfl | rfl | rfl <;> exact .inr ⟨by simp, by simp only; omega⟩)
      have Eq27x19 := Eq27x16.set (gjq27_0_1) NN9 NN4 24 (Eq27x16.get (gjq27_0_1) NN4 24 (by simp)) (by omega) (m := [(gjq27_0_0, NN7, 24), (gjq27_0_1, NN9, 24)]) (fun p hp => by simp at hp; rcases hp with rfl | rfl <;> first | exact .inl rfl | exact .inr ⟨by simp, by simp only; omega⟩)
      generalize wq27x14.setRow (gjq27_0_1) NN9 = wq27x17 at *
      refine AnyF.done (by kernel_rfl) ?_ _
      refine nrm_intro ⟨gjq27_0_0, gjq27_0_1, rfl, (Hq27x18.app Eq27x19).sub (fun p hp => by simp at hp; rcases hp with rfl | rfl | rfl | rfl | rfl | rfl | rfl | rfl <;> simp), by omega, by omega, by omega, by omega, by omega, by omega, by omega, by omega, by omega, by omega, by omega, by omega, by omega, by omega, by omega⟩
    intro Jq27_0
    refine F_have 3 #[true, true, true, true, true, true, true, true, true, true, true, false, false, false] (fun a W => ∃ gjq27_1_0, a = { tmps := #[.agg PA, .agg PB, .agg D0, .pointer (some ⟨w.heap.size, 0, none⟩), .pointer (some ⟨g6, 0, none⟩), .pointer (some ⟨g9, 0, none⟩), .pointer (some ⟨g12, 0, none⟩), .pointer (some ⟨g17, 0, none⟩), .pointer (some ⟨g24, 0, none⟩), .pointer (some ⟨gjq27_1_0, 0, none⟩), undef, undef, undef, undef, undef, .pointer (some ⟨w.heap.size, 8, none⟩), .agg Z10, .pointer (some ⟨g6, 8, none⟩), .agg Z20, .agg NN2, .agg NN2, .agg NN2, .agg NN5, .pointer (some ⟨w.heap.size, 0, none⟩), .agg X10, .pointer (some ⟨g6, 0, none⟩), .agg X20, .agg NN7, .pointer (some ⟨w.heap.size, 4, none⟩), .agg Y10, .pointer (some ⟨g6, 4, none⟩), .agg Y20, .agg NN9, undef, undef, undef, undef, undef, undef, undef, undef, undef, undef, undef, undef, undef, undef, undef, undef, undef, undef, undef, undef, undef, undef, undef, undef, undef, undef, undef, undef, undef, undef, undef, undef, undef, undef, undef, undef, undef, undef, undef, undef, undef, undef], defers := [] } ∧ Kt w [(g24, NN5, 24), (g17, NN2, 24), (g12, ZR1, 71), (g9, D0, 24), (g6, PB, 71), (w.heap.size, PA, 71)] W ∧ Kt w [(gjq27_1_0, NN4, 24)] W ∧ w.heap.size ≤ gjq27_1_0 ∧ gjq27_1_0 ≠ g24 ∧ gjq27_1_0 ≠ g17 ∧ gjq27_1_0 ≠ g12 ∧ gjq27_1_0 ≠ g9 ∧ gjq27_1_0 ≠ g6 ∧ gjq27_1_0 ≠ w.heap.size) ?_ ?_
    · rintro a wq27x20 ⟨gjq27_1_0, rfl, Hq27x21, Eq27x22, fJq27_1_0, fJq27_1_1, fJq27_1_2, fJq27_1_3, fJq27_1_4, fJq27_1_5, fJq27_1_6⟩
      refine rdy [11] (ral 10 24 HZ24 (Hq27x21.alloc _) ?_ ReadyF.nil)
      have l0wq27x23 := Hq27x21.lt (g24) NN5 24 (by simp)
      have l1wq27x23 := Hq27x21.lt (g17) NN2 24 (by simp)
      have l2wq27x23 := Hq27x21.lt (g12) ZR1 71 (by simp)
      have l3wq27x23 := Hq27x21.lt (g9) D0 24 (by simp)
      have l4wq27x23 := Hq27x21.lt (g6) PB 71 (by simp)
      have l5wq27x23 := Hq27x21.lt (w.heap.size) PA 71 (by simp)
      have m0wq27x23 := Eq27x22.lt (gjq27_1_0) NN4 24 (by simp)
      have bwq27x23 := Hq27x21.1.size
      have Hq27x24 := Hq27x21.alloc (.cells NN4 24)
      have Eq27x25 := Eq27x22.new NN4 24
      simp only [Act.put, sT, sS, sZ]
      obtain ⟨wq27x23, hwq27x23⟩ : ∃ W, W = wq27x20.alloc (.cells NN4 24) := ⟨_, rfl⟩
      rw [← hwq27x23] at Hq27x24 Eq27x25 ⊢
      clear hwq27x23
      exact F_to (by kernel_rfl) (by kernel_rfl) (Jq27_0 _ _ ⟨gjq27_1_0, wq27x20.heap.size, rfl, Hq27x24, Eq27x25.sub (fun p hp => by simp at hp; rcases hp with rfl | rfl <;> simp), by omega, by omega, by omega, by omega, by omega, by omega, by omega, by omega, by omega, by omega, by omega, by omega, by omega, by omega, by omega⟩)
    intro Jq27_1
    refine F_have 3 #[true, true, true, true, true, true, true, true, true, true, false, true, false, false] (fun a W => ∃ gjq27_2_0, a = { tmps := #[.agg PA, .agg PB, .agg D0, .pointer (some ⟨w.heap.size, 0, none⟩), .pointer (some ⟨g6, 0, none⟩), .pointer (some ⟨g9, 0, none⟩), .pointer (some ⟨g12, 0, none⟩), .pointer (some ⟨g17, 0, none⟩), .pointer (some ⟨g24, 0, none⟩), undef, .pointer (some ⟨gjq27_2_0, 0, none⟩), undef, undef, undef, undef, .pointer (some ⟨w.heap.size, 8, none⟩), .agg Z10, .pointer (some ⟨g6, 8, none⟩), .agg Z20, .agg NN2, .agg NN2, .agg NN2, .agg NN5, .pointer (some ⟨w.heap.size, 0, none⟩), .agg X10, .pointer (some ⟨g6, 0, none⟩), .agg X20, .agg NN7, .pointer (some ⟨w.heap.size, 4, none⟩), .agg Y10, .pointer (some ⟨g6, 4, none⟩), .agg Y20, .agg NN9, undef, undef, undef, undef, undef, undef, undef, undef, undef, undef, undef, undef, undef, undef, undef, undef, undef, undef, undef, undef, undef, undef, undef, undef, undef, undef, undef, undef, undef, undef, undef, undef, undef, undef, undef, undef, undef, undef, undef, undef, undef, undef], defers := [] } ∧ Kt w [(g24, NN5, 24), (g17, NN2, 24), (g12, ZR1, 71), (g9, D0, 24), (g6, PB, 71), (w.heap.size, PA, 71)] W ∧ Kt w [(gjq27_2_0, NN4, 24)] W ∧ w.heap.size ≤ gjq27_2_0 ∧ gjq27_2_0 ≠ g24 ∧ gjq27_2_0 ≠ g17 ∧ gjq27_2_0 ≠ g12 ∧ gjq27_2_0 ≠ g9 ∧ gjq27_2_0 ≠ g6 ∧ gjq27_2_0 ≠ w.heap.size) ?_ ?_
    · rintro a wq27x26 ⟨gjq27_2_0, rfl, Hq27x27, Eq27x28, fJq27_2_0, fJq27_2_1, fJq27_2_2, fJq27_2_3, fJq27_2_4, fJq27_2_5, fJq27_2_6⟩
      refine rdy [10] (ral 9 24 HZ24 (Hq27x27.alloc _) ?_ ReadyF.nil)
      have l0wq27x29 := Hq27x27.lt (g24) NN5 24 (by simp)
      have l1wq27x29 := Hq27x27.lt (g17) NN2 24 (by simp)
      have l2wq27x29 := Hq27x27.lt (g12) ZR1 71 (by simp)
      have l3wq27x29 := Hq27x27.lt (g9) D0 24 (by simp)
      have l4wq27x29 := Hq27x27.lt (g6) PB 71 (by simp)
      have l5wq27x29 := Hq27x27.lt (w.heap.size) PA 71 (by simp)
      have m0wq27x29 := Eq27x28.lt (gjq27_2_0) NN4 24 (by simp)
      have bwq27x29 := Hq27x27.1.size
      have Hq27x30 := Hq27x27.alloc (.cells NN4 24)
      have Eq27x31 := Eq27x28.new NN4 24
      simp only [Act.put, sT, sS, sZ]
      obtain ⟨wq27x29, hwq27x29⟩ : ∃ W, W = wq27x26.alloc (.cells NN4 24) := ⟨_, rfl⟩
      rw [← hwq27x29] at Hq27x30 Eq27x31 ⊢
      clear hwq27x29
      exact F_to (by kernel_rfl) (by kernel_rfl) (Jq27_0 _ _ ⟨wq27x26.heap.size, gjq27_2_0, rfl, Hq27x30, Eq27x31, by omega, by omega, by omega, by omega, by omega, by omega, by omega, by omega, by omega, by omega, by omega, by omega, by omega, by omega, by omega⟩)
    intro Jq27_2
    refine F_have 3 #[true, true, true, true, true, true, true, true, true, false, true, true, false, false] (fun a W => ∃ gjq27_3_0 gjq27_3_1, a = { tmps := #[.agg PA, .agg PB, .agg D0, .pointer (some ⟨w.heap.size, 0, none⟩), .pointer (some ⟨g6, 0, none⟩), .pointer (some ⟨g9, 0, none⟩), .pointer (some ⟨g12, 0, none⟩), .pointer (some ⟨g17, 0, none⟩), .pointer (some ⟨g24, 0, none⟩), .pointer (some ⟨gjq27_3_0, 0, none⟩), .pointer (some ⟨gjq27_3_1, 0, none⟩), undef, undef, undef, undef, .pointer (some ⟨w.heap.size, 8, none⟩), .agg Z10, .pointer (some ⟨g6, 8, none⟩), .agg Z20, .agg NN2, .agg NN2, .agg NN2, .agg NN5, .pointer (some ⟨w.heap.size, 0, none⟩), .agg X10, .pointer (some ⟨g6, 0, none⟩), .agg X20, .agg NN7, .pointer (some ⟨w.heap.size, 4, none⟩), .agg Y10, .pointer (some ⟨g6, 4, none⟩), .agg Y20, undef, undef, undef, undef, undef, undef, undef, undef, undef, undef, undef, undef, undef, undef, undef, undef, undef, undef, undef, undef, undef, undef, undef, undef, undef, undef, undef, undef, undef, undef, undef, undef, undef, undef, undef, undef, undef, undef, undef, undef, undef, undef, undef], defers := [] } ∧ Kt w [(g24, NN5, 24), (g17, NN2, 24), (g12, ZR1, 71), (g9, D0, 24), (g6, PB, 71), (w.heap.size, PA, 71)] W ∧ Kt w [(gjq27_3_0, NN4, 24), (gjq27_3_1, NN4, 24)] W ∧ w.heap.size ≤ gjq27_3_0 ∧ w.heap.size ≤ gjq27_3_1 ∧ gjq27_3_0 ≠ g24 ∧ gjq27_3_0 ≠ g17 ∧ gjq27_3_0 ≠ g12 ∧ gjq27_3_0 ≠ g9 ∧ gjq27_3_0 ≠ g6 ∧ gjq27_3_0 ≠ w.heap.size ∧ gjq27_3_1 ≠ g24 ∧ gjq27_3_1 ≠ g17 ∧ gjq27_3_1 ≠ g12 ∧ gjq27_3_1 ≠ g9 ∧ gjq27_3_1 ≠ g6 ∧ gjq27_3_1 ≠ w.heap.size ∧ gjq27_3_1 ≠ gjq27_3_0) ?_ ?_
    · rintro a wq27x32 ⟨gjq27_3_0, gjq27_3_1, rfl, Hq27x33, Eq27x34, fJq27_3_0, fJq27_3_1, fJq27_3_2, fJq27_3_3, fJq27_3_4, fJq27_3_5, fJq27_3_6, fJq27_3_7, fJq27_3_8, fJq27_3_9, fJq27_3_10, fJq27_3_11, fJq27_3_12, fJq27_3_13, fJq27_3_14⟩
      refine rdy [9] (rcl (some 32) 34 #[.tmp 29, .tmp 31] #[24, 24] #[.agg Y10, .agg Y20] en34 _ (HC10.out _) ?_ ReadyF.nil)
      rintro v wq27x35 ⟨he, hb⟩
      cases he
      have Hq27x36 := Hq27x33.below hb
      have Eq27x37 := Eq27x34.below hb
      clear hb
      refine ⟨Hq27x36, ?_⟩
      simp only [Act.put, sT, sS, sZ]
      exact F_to (by kernel_rfl) (by kernel_rfl) (Jq27_0 _ _ ⟨gjq27_3_0, gjq27_3_1, rfl, Hq27x36, Eq27x37, by omega, by omega, by omega, by omega, by omega, by omega, by omega, by omega, by omega, by omega, by omega, by omega, by omega, by omega, by omega⟩)
    intro Jq27_3
    refine F_have 4 #[true, true, true, true, true, true, true, true, true, false, true, false, false, false] (fun a W => ∃ gjq27_4_0, a = { tmps := #[.agg PA, .agg PB, .agg D0, .pointer (some ⟨w.heap.size, 0, none⟩), .pointer (some ⟨g6, 0, none⟩), .pointer (some ⟨g9, 0, none⟩), .pointer (some ⟨g12, 0, none⟩), .pointer (some ⟨g17, 0, none⟩), .pointer (some ⟨g24, 0, none⟩), .pointer (some ⟨gjq27_4_0, 0, none⟩), undef, undef, undef, undef, undef, .pointer (some ⟨w.heap.size, 8, none⟩), .agg Z10, .pointer (some ⟨g6, 8, none⟩), .agg Z20, .agg NN2, .agg NN2, .agg NN2, .agg NN5, .pointer (some ⟨w.heap.size, 0, none⟩), .agg X10, .pointer (some ⟨g6, 0, none⟩), .agg X20, .agg NN7, .pointer (some ⟨w.heap.size, 4, none⟩), .agg Y10, .pointer (some ⟨g6, 4, none⟩), .agg Y20, undef, undef, undef, undef, undef, undef, undef, undef, undef, undef, undef, undef, undef, undef, undef, undef, undef, undef, undef, undef, undef, undef, undef, undef, undef, undef, undef, undef, undef, undef, undef, undef, undef, undef, undef, undef, undef, undef, undef, undef, undef, undef, undef], defers := [] } ∧ Kt w [(g24, NN5, 24), (g17, NN2, 24), (g12, ZR1, 71), (g9, D0, 24), (g6, PB, 71), (w.heap.size, PA, 71)] W ∧ Kt w [(gjq27_4_0, NN4, 24)] W ∧ w.heap.size ≤ gjq27_4_0 ∧ gjq27_4_0 ≠ g24 ∧ gjq27_4_0 ≠ g17 ∧ gjq27_4_0 ≠ g12 ∧ gjq27_4_0 ≠ g9 ∧ gjq27_4_0 ≠ g6 ∧ gjq27_4_0 ≠ w.heap.size) ?_ ?_
    · rintro a wq27x38 ⟨gjq27_4_0, rfl, Hq27x39, Eq27x40, fJq27_4_0, fJq27_4_1, fJq27_4_2, fJq27_4_3, fJq27_4_4, fJq27_4_5, fJq27_4_6⟩
      refine rdy [9, 11] (rcl (some 32) 34 #[.tmp 29, .tmp 31] #[24, 24] #[.agg Y10, .agg Y20] en34 _ (HC10.out _) ?_ (ral 10 24 HZ24 (Hq27x39.alloc _) ?_ ReadyF.nil))
      · rintro v wq27x41 ⟨he, hb⟩
        cases he
        have Hq27x42 := Hq27x39.below hb
        have Eq27x43 := Eq27x40.below hb
        clear hb
        refine ⟨Hq27x42, ?_⟩
        simp only [Act.put, sT, sS, sZ]
        exact F_to (by kernel_rfl) (by kernel_rfl) (Jq27_1 _ _ ⟨gjq27_4_0, rfl, Hq27x42, Eq27x43, by omega, by omega, by omega, by omega, by omega, by omega, by omega⟩)
      · have l0wq27x44 := Hq27x39.lt (g24) NN5 24 (by simp)
        have l1wq27x44 := Hq27x39.lt (g17) NN2 24 (by simp)
        have l2wq27x44 := Hq27x39.lt (g12) ZR1 71 (by simp)
        have l3wq27x44 := Hq27x39.lt (g9) D0 24 (by simp)
        have l4wq27x44 := Hq27x39.lt (g6) PB 71 (by simp)
        have l5wq27x44 := Hq27x39.lt (w.heap.size) PA 71 (by simp)
        have m0wq27x44 := Eq27x40.lt (gjq27_4_0) NN4 24 (by simp)
        have bwq27x44 := Hq27x39.1.size
        have Hq27x45 := Hq27x39.alloc (.cells NN4 24)
        have Eq27x46 := Eq27x40.new NN4 24
        simp only [Act.put, sT, sS, sZ]
        obtain ⟨wq27x44, hwq27x44⟩ : ∃ W, W = wq27x38.alloc (.cells NN4 24) := ⟨_, rfl⟩
        rw [← hwq27x44] at Hq27x45 Eq27x46 ⊢
        clear hwq27x44
        exact F_to (by kernel_rfl) (by kernel_rfl) (Jq27_3 _ _ ⟨gjq27_4_0, wq27x38.heap.size, rfl, Hq27x45, Eq27x46.sub (fun p hp => by simp at hp; rcases hp with rfl | rfl <;> simp), by omega, by omega, by omega, by omega, by omega, by omega, by omega, by omega, by omega, by omega, by omega, by omega, by omega, by omega, by omega⟩)
    intro Jq27_4
    refine F_have 4 #[true, true, true, true, true, true, true, true, true, false, false, true, false, false] (fun a W => ∃ gjq27_5_0, a = { tmps := #[.agg PA, .agg PB, .agg D0, .pointer (some ⟨w.heap.size, 0, none⟩), .pointer (some ⟨g6, 0, none⟩), .pointer (some ⟨g9, 0, none⟩), .pointer (some ⟨g12, 0, none⟩), .pointer (some ⟨g17, 0, none⟩), .pointer (some ⟨g24, 0, none⟩), undef, .pointer (some ⟨gjq27_5_0, 0, none⟩), undef, undef, undef, undef, .pointer (some ⟨w.heap.size, 8, none⟩), .agg Z10, .pointer (some ⟨g6, 8, none⟩), .agg Z20, .agg NN2, .agg NN2, .agg NN2, .agg NN5, .pointer (some ⟨w.heap.size, 0, none⟩), .agg X10, .pointer (some ⟨g6, 0, none⟩), .agg X20, .agg NN7, .pointer (some ⟨w.heap.size, 4, none⟩), .agg Y10, .pointer (some ⟨g6, 4, none⟩), .agg Y20, undef, undef, undef, undef, undef, undef, undef, undef, undef, undef, undef, undef, undef, undef, undef, undef, undef, undef, undef, undef, undef, undef, undef, undef, undef, undef, undef, undef, undef, undef, undef, undef, undef, undef, undef, undef, undef, undef, undef, undef, undef, undef, undef], defers := [] } ∧ Kt w [(g24, NN5, 24), (g17, NN2, 24), (g12, ZR1, 71), (g9, D0, 24), (g6, PB, 71), (w.heap.size, PA, 71)] W ∧ Kt w [(gjq27_5_0, NN4, 24)] W ∧ w.heap.size ≤ gjq27_5_0 ∧ gjq27_5_0 ≠ g24 ∧ gjq27_5_0 ≠ g17 ∧ gjq27_5_0 ≠ g12 ∧ gjq27_5_0 ≠ g9 ∧ gjq27_5_0 ≠ g6 ∧ gjq27_5_0 ≠ w.heap.size) ?_ ?_
    · rintro a wq27x47 ⟨gjq27_5_0, rfl, Hq27x48, Eq27x49, fJq27_5_0, fJq27_5_1, fJq27_5_2, fJq27_5_3, fJq27_5_4, fJq27_5_5, fJq27_5_6⟩
      refine rdy [9, 10] (rcl (some 32) 34 #[.tmp 29, .tmp 31] #[24, 24] #[.agg Y10, .agg Y20] en34 _ (HC10.out _) ?_ (ral 9 24 HZ24 (Hq27x48.alloc _) ?_ ReadyF.nil))
      · rintro v wq27x50 ⟨he, hb⟩
        cases he
        have Hq27x51 := Hq27x48.below hb
        have Eq27x52 := Eq27x49.below hb
        clear hb
        refine ⟨Hq27x51, ?_⟩
        simp only [Act.put, sT, sS, sZ]
        exact F_to (by kernel_rfl) (by kernel_rfl) (Jq27_2 _ _ ⟨gjq27_5_0, rfl, Hq27x51, Eq27x52, by omega, by omega, by omega, by omega, by omega, by omega, by omega⟩)
      · have l0wq27x53 := Hq27x48.lt (g24) NN5 24 (by simp)
        have l1wq27x53 := Hq27x48.lt (g17) NN2 24 (by simp)
        have l2wq27x53 := Hq27x48.lt (g12) ZR1 71 (by simp)
        have l3wq27x53 := Hq27x48.lt (g9) D0 24 (by simp)
        have l4wq27x53 := Hq27x48.lt (g6) PB 71 (by simp)
        have l5wq27x53 := Hq27x48.lt (w.heap.size) PA 71 (by simp)
        have m0wq27x53 := Eq27x49.lt (gjq27_5_0) NN4 24 (by simp)
        have bwq27x53 := Hq27x48.1.size
        have Hq27x54 := Hq27x48.alloc (.cells NN4 24)
        have Eq27x55 := Eq27x49.new NN4 24
        simp only [Act.put, sT, sS, sZ]
        obtain ⟨wq27x53, hwq27x53⟩ : ∃ W, W = wq27x47.alloc (.cells NN4 24) := ⟨_, rfl⟩
        rw [← hwq27x53] at Hq27x54 Eq27x55 ⊢
        clear hwq27x53
        exact F_to (by kernel_rfl) (by kernel_rfl) (Jq27_3 _ _ ⟨wq27x47.heap.size, gjq27_5_0, rfl, Hq27x54, Eq27x55, by omega, by omega, by omega, by omega, by omega, by omega, by omega, by omega, by omega, by omega, by omega, by omega, by omega, by omega, by omega⟩)
    intro Jq27_5
    refine F_have 4 #[true, true, true, true, false, true, true, true, true, false, true, true, false, false] (fun a W => ∃ gjq27_6_0 gjq27_6_1, a = { tmps := #[.agg PA, .agg PB, .agg D0, .pointer (some ⟨w.heap.size, 0, none⟩), .pointer (some ⟨g6, 0, none⟩), .pointer (some ⟨g9, 0, none⟩), .pointer (some ⟨g12, 0, none⟩), .pointer (some ⟨g17, 0, none⟩), .pointer (some ⟨g24, 0, none⟩), .pointer (some ⟨gjq27_6_0, 0, none⟩), .pointer (some ⟨gjq27_6_1, 0, none⟩), undef, undef, undef, undef, .pointer (some ⟨w.heap.size, 8, none⟩), .agg Z10, .pointer (some ⟨g6, 8, none⟩), .agg Z20, .agg NN2, .agg NN2, .agg NN2, .agg NN5, .pointer (some ⟨w.heap.size, 0, none⟩), .agg X10, .pointer (some ⟨g6, 0, none⟩), .agg X20, undef, .pointer (some ⟨w.heap.size, 4, none⟩), .agg Y10, .pointer (some ⟨g6, 4, none⟩), .agg Y20, undef, undef, undef, undef, undef, undef, undef, undef, undef, undef, undef, undef, undef, undef, undef, undef, undef, undef, undef, undef, undef, undef, undef, undef, undef, undef, undef, undef, undef, undef, undef, undef, undef, undef, undef, undef, undef, undef, undef, undef, undef, undef, undef], defers := [] } ∧ Kt w [(g24, NN5, 24), (g17, NN2, 24), (g12, ZR1, 71), (g9, D0, 24), (g6, PB, 71), (w.heap.size, PA, 71)] W ∧ Kt w [(gjq27_6_0, NN4, 24), (gjq27_6_1, NN4, 24)] W ∧ w.heap.size ≤ gjq27_6_0 ∧ w.heap.size ≤ gjq27_6_1 ∧ gjq27_6_0 ≠ g24 ∧ gjq27_6_0 ≠ g17 ∧ gjq27_6_0 ≠ g12 ∧ gjq27_6_0 ≠ g9 ∧ gjq27_6_0 ≠ g6 ∧ gjq27_6_0 ≠ w.heap.size ∧ gjq27_6_1 ≠ g24 ∧ gjq27_6_1 ≠ g17 ∧ gjq27_6_1 ≠ g12 ∧ gjq27_6_1 ≠ g9 ∧ gjq27_6_1 ≠ g6 ∧ gjq27_6_1 ≠ w.heap.size ∧ gjq27_6_1 ≠ gjq27_6_0) ?_ ?_
    · rintro a wq27x56 ⟨gjq27_6_0, gjq27_6_1, rfl, Hq27x57, Eq27x58, fJq27_6_0, fJq27_6_1, fJq27_6_2, fJq27_6_3, fJq27_6_4, fJq27_6_5, fJq27_6_6, fJq27_6_7, fJq27_6_8, fJq27_6_9, fJq27_6_10, fJq27_6_11, fJq27_6_12, fJq27_6_13, fJq27_6_14⟩
      refine rdy [4] (rcl (some 27) 34 #[.tmp 24, .tmp 26] #[24, 24] #[.agg X10, .agg X20] en34 _ (HC8.out _) ?_ ReadyF.nil)
      rintro v wq27x59 ⟨he, hb⟩
      cases he
      have Hq27x60 := Hq27x57.below hb
      have Eq27x61 := Eq27x58.below hb
      clear hb
      refine ⟨Hq27x60, ?_⟩
      simp only [Act.put, sT, sS, sZ]
      exact F_to (by kernel_rfl) (by kernel_rfl) (Jq27_3 _ _ ⟨gjq27_6_0, gjq27_6_1, rfl, Hq27x60, Eq27x61, by omega, by omega, by omega, by omega, by omega, by omega, by omega, by omega, by omega, by omega, by omega, by omega, by omega, by omega, by omega⟩)
    intro Jq27_6
    refine tkG 0 (some 23) (.fieldAddr 71 (.tmp 3) 0) none (.pointer (some ⟨w.heap.size, 0, none⟩)) (fun o ho w2 hw => exec_field 71 (.tmp 3) 0 ho _ _ rfl w2 (fa71_0 (w.heap.size) w2)) HDq27x1 ?_
    simp only [Act.put, sT, sS, sZ]
    refine tkG 1 (some 24) (.load 24 (.tmp 23)) none (.agg X10) (fun o ho w2 hw => exec_load_of _ 24 (.tmp 23) ho ⟨w.heap.size, 0, none⟩ rfl _ (load_part (hw.get (w.heap.size) PA 71 (by simp)) IX10 0 SPA_0)) HDq27x1 ?_
    simp only [Act.put, sT, sS, sZ]
    refine tkG 2 (some 25) (.fieldAddr 71 (.tmp 4) 0) none (.pointer (some ⟨g6, 0, none⟩)) (fun o ho w2 hw => exec_field 71 (.tmp 4) 0 ho _ _ rfl w2 (fa71_0 (g6) w2)) HDq27x1 ?_
    simp only [Act.put, sT, sS, sZ]
    refine tkG 3 (some 26) (.load 24 (.tmp 25)) none (.agg X20) (fun o ho w2 hw => exec_load_of _ 24 (.tmp 25) ho ⟨g6, 0, none⟩ rfl _ (load_part (hw.get (g6) PB 71 (by simp)) IX20 0 SPB_0)) HDq27x1 ?_
    simp only [Act.put, sT, sS, sZ]
    refine tkG 5 (some 28) (.fieldAddr 71 (.tmp 3) 1) none (.pointer (some ⟨w.heap.size, 4, none⟩)) (fun o ho w2 hw => exec_field 71 (.tmp 3) 1 ho _ _ rfl w2 (fa71_1 (w.heap.size) w2)) HDq27x1 ?_
    simp only [Act.put, sT, sS, sZ]
    refine tkG 6 (some 29) (.load 24 (.tmp 28)) none (.agg Y10) (fun o ho w2 hw => exec_load_of _ 24 (.tmp 28) ho ⟨w.heap.size, 4, none⟩ rfl _ (load_part (hw.get (w.heap.size) PA 71 (by simp)) IY10 4 SPA_4)) HDq27x1 ?_
    simp only [Act.put, sT, sS, sZ]
    refine tkG 7 (some 30) (.fieldAddr 71 (.tmp 4) 1) none (.pointer (some ⟨g6, 4, none⟩)) (fun o ho w2 hw => exec_field 71 (.tmp 4) 1 ho _ _ rfl w2 (fa71_1 (g6) w2)) HDq27x1 ?_
    simp only [Act.put, sT, sS, sZ]
    refine tkG 8 (some 31) (.load 24 (.tmp 30)) none (.agg Y20) (fun o ho w2 hw => exec_load_of _ 24 (.tmp 30) ho ⟨g6, 4, none⟩ rfl _ (load_part (hw.get (g6) PB 71 (by simp)) IY20 4 SPB_4)) HDq27x1 ?_
    simp only [Act.put, sT, sS, sZ]
    refine rdy [4, 10, 11] (rcl (some 27) 34 #[.tmp 24, .tmp 26] #[24, 24] #[.agg X10, .agg X20] en34 _ (HC8.out _) ?_ (ral 9 24 HZ24 (HDq27x1.alloc _) ?_ (ral 10 24 HZ24 (HDq27x1.alloc _) ?_ ReadyF.nil)))
    · rintro v wq27x62 ⟨he, hb⟩
      cases he
      have Hq27x63 := HDq27x1.below hb
      clear hb
      refine ⟨Hq27x63, ?_⟩
      simp only [Act.put, sT, sS, sZ]
      refine rdy [9, 10, 11] (rcl (some 32) 34 #[.tmp 29, .tmp 31] #[24, 24] #[.agg Y10, .agg Y20] en34 _ (HC10.out _) ?_ (ral 9 24 HZ24 (Hq27x63.alloc _) ?_ (ral 10 24 HZ24 (Hq27x63.alloc _) ?_ ReadyF.nil)))
      · rintro v wq27x64 ⟨he, hb⟩
        cases he
        have Hq27x65 := Hq27x63.below hb
        clear hb
        refine ⟨Hq27x65, ?_⟩
        simp only [Act.put, sT, sS, sZ]
        refine rdy [10, 11] (ral 9 24 HZ24 (Hq27x65.alloc _) ?_ (ral 10 24 HZ24 (Hq27x65.alloc _) ?_ ReadyF.nil))
        · have l0wq27x66 := Hq27x65.lt (g24) NN5 24 (by simp)
          have l1wq27x66 := Hq27x65.lt (g17) NN2 24 (by simp)
          have l2wq27x66 := Hq27x65.lt (g12) ZR1 71 (by simp)
          have l3wq27x66 := Hq27x65.lt (g9) D0 24 (by simp)
          have l4wq27x66 := Hq27x65.lt (g6) PB 71 (by simp)
          have l5wq27x66 := Hq27x65.lt (w.heap.size) PA 71 (by simp)
          have bwq27x66 := Hq27x65.1.size
          have Hq27x67 := Hq27x65.alloc (.cells NN4 24)
          have Eq27x68 := (Hq27x65.sub (m := []) (fun p hp => by cases hp)).new NN4 24
          simp only [Act.put, sT, sS, sZ]
          obtain ⟨wq27x66, hwq27x66⟩ : ∃ W, W = wq27x64.alloc (.cells NN4 24) := ⟨_, rfl⟩
          rw [← hwq27x66] at Hq27x67 Eq27x68 ⊢
          clear hwq27x66
          exact F_to (by kernel_rfl) (by kernel_rfl) (Jq27_1 _ _ ⟨wq27x64.heap.size, rfl, Hq27x67, Eq27x68, by omega, by omega, by omega, by omega, by omega, by omega, by omega⟩)
        · have l0wq27x69 := Hq27x65.lt (g24) NN5 24 (by simp)
          have l1wq27x69 := Hq27x65.lt (g17) NN2 24 (by simp)
          have l2wq27x69 := Hq27x65.lt (g12) ZR1 71 (by simp)
          have l3wq27x69 := Hq27x65.lt (g9) D0 24 (by simp)
          have l4wq27x69 := Hq27x65.lt (g6) PB 71 (by simp)
          have l5wq27x69 := Hq27x65.lt (w.heap.size) PA 71 (by simp)
          have bwq27x69 := Hq27x65.1.size
          have Hq27x70 := Hq27x65.alloc (.cells NN4 24)
          have Eq27x71 := (Hq27x65.sub (m := []) (fun p hp => by cases hp)).new NN4 24
          simp only [Act.put, sT, sS, sZ]
          obtain ⟨wq27x69, hwq27x69⟩ : ∃ W, W = wq27x64.alloc (.cells NN4 24) := ⟨_, rfl⟩
          rw [← hwq27x69] at Hq27x70 Eq27x71 ⊢
          clear hwq27x69
          exact F_to (by kernel_rfl) (by kernel_rfl) (Jq27_2 _ _ ⟨wq27x64.heap.size, rfl, Hq27x70, Eq27x71, by omega, by omega, by omega, by omega, by omega, by omega, by omega⟩)
      · have l0wq27x72 := Hq27x63.lt (g24) NN5 24 (by simp)
        have l1wq27x72 := Hq27x63.lt (g17) NN2 24 (by simp)
        have l2wq27x72 := Hq27x63.lt (g12) ZR1 71 (by simp)
        have l3wq27x72 := Hq27x63.lt (g9) D0 24 (by simp)
        have l4wq27x72 := Hq27x63.lt (g6) PB 71 (by simp)
        have l5wq27x72 := Hq27x63.lt (w.heap.size) PA 71 (by simp)
        have bwq27x72 := Hq27x63.1.size
        have Hq27x73 := Hq27x63.alloc (.cells NN4 24)
        have Eq27x74 := (Hq27x63.sub (m := []) (fun p hp => by cases hp)).new NN4 24
        simp only [Act.put, sT, sS, sZ]
        obtain ⟨wq27x72, hwq27x72⟩ : ∃ W, W = wq27x62.alloc (.cells NN4 24) := ⟨_, rfl⟩
        rw [← hwq27x72] at Hq27x73 Eq27x74 ⊢
        clear hwq27x72
        exact F_to (by kernel_rfl) (by kernel_rfl) (Jq27_4 _ _ ⟨wq27x62.heap.size, rfl, Hq27x73, Eq27x74, by omega, by omega, by omega, by omega, by omega, by omega, by omega⟩)
      · have l0wq27x75 := Hq27x63.lt (g24) NN5 24 (by simp)
        have l1wq27x75 := Hq27x63.lt (g17) NN2 24 (by simp)
        have l2wq27x75 := Hq27x63.lt (g12) ZR1 71 (by simp)
        have l3wq27x75 := Hq27x63.lt (g9) D0 24 (by simp)
        have l4wq27x75 := Hq27x63.lt (g6) PB 71 (by simp)
        have l5wq27x75 := Hq27x63.lt (w.heap.size) PA 71 (by simp)
        have bwq27x75 := Hq27x63.1.size
        have Hq27x76 := Hq27x63.alloc (.cells NN4 24)
        have Eq27x77 := (Hq27x63.sub (m := []) (fun p hp => by cases hp)).new NN4 24
        simp only [Act.put, sT, sS, sZ]
        obtain ⟨wq27x75, hwq27x75⟩ : ∃ W, W = wq27x62.alloc (.cells NN4 24) := ⟨_, rfl⟩
        rw [← hwq27x75] at Hq27x76 Eq27x77 ⊢
        clear hwq27x75
        exact F_to (by kernel_rfl) (by kernel_rfl) (Jq27_5 _ _ ⟨wq27x62.heap.size, rfl, Hq27x76, Eq27x77, by omega, by omega, by omega, by omega, by omega, by omega, by omega⟩)
    · have l0wq27x78 := HDq27x1.lt (g24) NN5 24 (by simp)
      have l1wq27x78 := HDq27x1.lt (g17) NN2 24 (by simp)
      have l2wq27x78 := HDq27x1.lt (g12) ZR1 71 (by simp)
      have l3wq27x78 := HDq27x1.lt (g9) D0 24 (by simp)
      have l4wq27x78 := HDq27x1.lt (g6) PB 71 (by simp)
      have l5wq27x78 := HDq27x1.lt (w.heap.size) PA 71 (by simp)
      have bwq27x78 := HDq27x1.1.size
      have Hq27x79 := HDq27x1.alloc (.cells NN4 24)
      have Eq27x80 := (HDq27x1.sub (m := []) (fun p hp => by cases hp)).new NN4 24
      simp only [Act.put, sT, sS, sZ]
      obtain ⟨wq27x78, hwq27x78⟩ : ∃ W, W = wdq27x2.alloc (.cells NN4 24) := ⟨_, rfl⟩
      rw [← hwq27x78] at Hq27x79 Eq27x80 ⊢
      clear hwq27x78
      refine rdy [4, 11] (rcl (some 27) 34 #[.tmp 24, .tmp 26] #[24, 24] #[.agg X10, .agg X20] en34 _ (HC8.out _) ?_ (ral 10 24 HZ24 (Hq27x79.alloc _) ?_ ReadyF.nil))
      · rintro v wq27x81 ⟨he, hb⟩
        cases he
        have Hq27x82 := Hq27x79.below hb
        have Eq27x83 := Eq27x80.below hb
        clear hb
        refine ⟨Hq27x82, ?_⟩
        simp only [Act.put, sT, sS, sZ]
        exact F_to (by kernel_rfl) (by kernel_rfl) (Jq27_4 _ _ ⟨wdq27x2.heap.size, rfl, Hq27x82, Eq27x83, by omega, by omega, by omega, by omega, by omega, by omega, by omega⟩)
      · have l0wq27x84 := Hq27x79.lt (g24) NN5 24 (by simp)
        have l1wq27x84 := Hq27x79.lt (g17) NN2 24 (by simp)
        have l2wq27x84 := Hq27x79.lt (g12) ZR1 71 (by simp)
        have l3wq27x84 := Hq27x79.lt (g9) D0 24 (by simp)
        have l4wq27x84 := Hq27x79.lt (g6) PB 71 (by simp)
        have l5wq27x84 := Hq27x79.lt (w.heap.size) PA 71 (by simp)
        have m0wq27x84 := Eq27x80.lt (wdq27x2.heap.size) NN4 24 (by simp)
        have bwq27x84 := Hq27x79.1.size
        have Hq27x85 := Hq27x79.alloc (.cells NN4 24)
        have Eq27x86 := Eq27x80.new NN4 24
        simp only [Act.put, sT, sS, sZ]
        obtain ⟨wq27x84, hwq27x84⟩ : ∃ W, W = wq27x78.alloc (.cells NN4 24) := ⟨_, rfl⟩
        rw [← hwq27x84] at Hq27x85 Eq27x86 ⊢
        clear hwq27x84
        exact F_to (by kernel_rfl) (by kernel_rfl) (Jq27_6 _ _ ⟨wdq27x2.heap.size, wq27x78.heap.size, rfl, Hq27x85, Eq27x86.sub (fun p hp => by simp at hp; rcases hp with rfl | rfl <;> simp), by omega, by omega, by omega, by omega, by omega, by omega, by omega, by omega, by omega, by omega, by omega, by omega, by omega, by omega, by omega⟩)
    · have l0wq27x87 := HDq27x1.lt (g24) NN5 24 (by simp)
      have l1wq27x87 := HDq27x1.lt (g17) NN2 24 (by simp)
      have l2wq27x87 := HDq27x1.lt (g12) ZR1 71 (by simp)
      have l3wq27x87 := HDq27x1.lt (g9) D0 24 (by simp)
      have l4wq27x87 := HDq27x1.lt (g6) PB 71 (by simp)
      have l5wq27x87 := HDq27x1.lt (w.heap.size) PA 71 (by simp)
      have bwq27x87 := HDq27x1.1.size
      have Hq27x88 := HDq27x1.alloc (.cells NN4 24)
      have Eq27x89 := (HDq27x1.sub (m := []) (fun p hp => by cases hp)).new NN4 24
      simp only [Act.put, sT, sS, sZ]
      obtain ⟨wq27x87, hwq27x87⟩ : ∃ W, W = wdq27x2.alloc (.cells NN4 24) := ⟨_, rfl⟩
      rw [← hwq27x87] at Hq27x88 Eq27x89 ⊢
      clear hwq27x87
      refine rdy [4, 10] (rcl (some 27) 34 #[.tmp 24, .tmp 26] #[24, 24] #[.agg X10, .agg X20] en34 _ (HC8.out _) ?_ (ral 9 24 HZ24 (Hq27x88.alloc _) ?_ ReadyF.nil))
      · rintro v wq27x90 ⟨he, hb⟩
        cases he
        have Hq27x91 := Hq27x88.below hb
        have Eq27x92 := Eq27x89.below hb
        clear hb
        refine ⟨Hq27x91, ?_⟩
        simp only [Act.put, sT, sS, sZ]
        exact F_to (by kernel_rfl) (by kernel_rfl) (Jq27_5 _ _ ⟨wdq27x2.heap.size, rfl, Hq27x91, Eq27x92, by omega, by omega, by omega, by omega, by omega, by omega, by omega⟩)
      · have l0wq27x93 := Hq27x88.lt (g24) NN5 24 (by simp)
        have l1wq27x93 := Hq27x88.lt (g17) NN2 24 (by simp)
        have l2wq27x93 := Hq27x88.lt (g12) ZR1 71 (by simp)
        have l3wq27x93 := Hq27x88.lt (g9) D0 24 (by simp)
        have l4wq27x93 := Hq27x88.lt (g6) PB 71 (by simp)
        have l5wq27x93 := Hq27x88.lt (w.heap.size) PA 71 (by simp)
        have m0wq27x93 := Eq27x89.lt (wdq27x2.heap.size) NN4 24 (by simp)
        have bwq27x93 := Hq27x88.1.size
        have Hq27x94 := Hq27x88.alloc (.cells NN4 24)
        have Eq27x95 := Eq27x89.new NN4 24
        simp only [Act.put, sT, sS, sZ]
        obtain ⟨wq27x93, hwq27x93⟩ : ∃ W, W = wq27x87.alloc (.cells NN4 24) := ⟨_, rfl⟩
        rw [← hwq27x93] at Hq27x94 Eq27x95 ⊢
        clear hwq27x93
        exact F_to (by kernel_rfl) (by kernel_rfl) (Jq27_6 _ _ ⟨wq27x87.heap.size, wdq27x2.heap.size, rfl, Hq27x94, Eq27x95, by omega, by omega, by omega, by omega, by omega, by omega, by omega, by omega, by omega, by omega, by omega, by omega, by omega, by omega, by omega⟩)
  rintro a' w28 ⟨gq27s0, gq27s1, rfl, hk, e30, e31, e32, e33, e34, e35, e36, e37, e38, e39, e40, e41, e42, e43, e44⟩
  have HS29 := Lib.hid hk
  clear hk HS26
  go_upto_region 4 with fail
  refine wp_cut (fun a' W' => ∃ gq45s0, a' = { tmps := #[.agg PA, .agg PB, .agg D0, .pointer (some ⟨w.heap.size, 0, none⟩), .pointer (some ⟨g6, 0, none⟩), .pointer (some ⟨g9, 0, none⟩), .pointer (some ⟨g12, 0, none⟩), .pointer (some ⟨g17, 0, none⟩), .pointer (some ⟨g24, 0, none⟩), .pointer (some ⟨gq27s0, 0, none⟩), .pointer (some ⟨gq27s1, 0, none⟩), .pointer (some ⟨gq45s0, 0, none⟩), undef, undef, undef, .pointer (some ⟨w.heap.size, 8, none⟩), .agg Z10, .pointer (some ⟨g6, 8, none⟩), .agg Z20, .agg NN2, .agg NN2, .agg NN2, .agg NN5, .pointer (some ⟨w.heap.size, 0, none⟩), .agg X10, .pointer (some ⟨g6, 0, none⟩), .agg X20, .agg NN7, .pointer (some ⟨w.heap.size, 4, none⟩), .agg Y10, .pointer (some ⟨g6, 4, none⟩), .agg Y20, .agg NN9, .agg D0, .agg NN7, .agg NN9, .agg NN11, .agg NN13, undef, undef, undef, undef, undef, undef, undef, undef, undef, undef, undef, undef, undef, undef, undef, undef, undef, undef, undef, undef, undef, undef, undef, undef, undef, undef, undef, undef, undef, undef, undef, undef, undef, undef, undef, undef, undef], defers := [] } ∧ Kt w [(g24, NN5, 24), (g17, NN2, 24), (g12, ZR1, 71), (g6, PB, 71), (w.heap.size, PA, 71), (gq27s0, NN7, 24), (gq27s1, NN9, 24), (gq45s0, NN13, 24)] W' ∧ w.heap.size ≤ gq45s0 ∧ gq45s0 ≠ g24 ∧ gq45s0 ≠ g17 ∧ gq45s0 ≠ g12 ∧ gq45s0 ≠ g9 ∧ gq45s0 ≠ g6 ∧ gq45s0 ≠ w.heap.size ∧ gq45s0 ≠ gq27s0 ∧ gq45s0 ≠ gq27s1) ?_ ?_
  · refine wp_region_any (by kernel_rfl) ?_
    change wpAny _ _ _ _ _ _ _ (World.drew _)
    have HDq45x1 := HS29.out.drew
    clear HS29
    generalize w28.drew = wdq45x2 at *
    refine any_of_F (S := Kt w [(g24, NN5, 24), (g17, NN2, 24), (g12, ZR1, 71), (g9, D0, 24), (g6, PB, 71), (w.heap.size, PA, 71), (gq27s0, NN7, 24), (gq27s1, NN9, 24)]) (f := 1000) _ _ _ _ ?_
    refine F_have 1 #[true, true, true, true, true, true, false] (fun a W => ∃ gjq45_0_0, a = { tmps := #[.agg PA, .agg PB, .agg D0, .pointer (some ⟨w.heap.size, 0, none⟩), .pointer (some ⟨g6, 0, none⟩), .pointer (some ⟨g9, 0, none⟩), .pointer (some ⟨g12, 0, none⟩), .pointer (some ⟨g17, 0, none⟩), .pointer (some ⟨g24, 0, none⟩), .pointer (some ⟨gq27s0, 0, none⟩), .pointer (some ⟨gq27s1, 0, none⟩), .pointer (some ⟨gjq45_0_0, 0, none⟩), undef, undef, undef, .pointer (some ⟨w.heap.size, 8, none⟩), .agg Z10, .pointer (some ⟨g6, 8, none⟩), .agg Z20, .agg NN2, .agg NN2, .agg NN2, .agg NN5, .pointer (some ⟨w.heap.size, 0, none⟩), .agg X10, .pointer (some ⟨g6, 0, none⟩), .agg X20, .agg NN7, .pointer (some ⟨w.heap.size, 4, none⟩), .agg Y10, .pointer (some ⟨g6, 4, none⟩), .agg Y20, .agg NN9, .agg D0, .agg NN7, .agg NN9, .agg NN11, .agg NN13, undef, undef, undef, undef, undef, undef, undef, undef, undef, undef, undef, undef, undef, undef, undef, undef, undef, undef, undef, undef, undef, undef, undef, undef, undef, undef, undef, undef, undef, undef, undef, undef, undef, undef, undef, undef, undef], defers := [] } ∧ Kt w [(g24, NN5, 24), (g17, NN2, 24), (g12, ZR1, 71), (g9, D0, 24), (g6, PB, 71), (w.heap.size, PA, 71), (gq27s0, NN7, 24), (gq27s1, NN9, 24)] W ∧ Kt w [(gjq45_0_0, NN4, 24)] W ∧ w.heap.size ≤ gjq45_0_0 ∧ gjq45_0_0 ≠ g24 ∧ gjq45_0_0 ≠ g17 ∧ gjq45_0_0 ≠ g12 ∧ gjq45_0_0 ≠ g9 ∧ gjq45_0_0 ≠ g6 ∧ gjq45_0_0 ≠ w.heap.size ∧ gjq45_0_0 ≠ gq27s0 ∧ gjq45_0_0 ≠ gq27s1) ?_ ?_
    · rintro a wq45x11 ⟨gjq45_0_0, rfl, Hq45x12, Eq45x13, fJq45_0_0, fJq45_0_1, fJq45_0_2, fJq45_0_3, fJq45_0_4, fJq45_0_5, fJq45_0_6, fJq45_0_7, fJq45_0_8⟩
      refine rdy [6] (ReadyF.op0 (.store 24 (.tmp 11) (.tmp 37)) rfl (fun o ho => exec_store24 wq45x11 (.tmp 11) (.tmp 37) ho (gjq45_0_0) rfl NN13 INN13 rfl NN4 24 (Eq45x13.get (gjq45_0_0) NN4 24 (by simp)) SZNN4) (Hq45x12.set (gjq45_0_0) NN13 NN4 24 (Eq45x13.get (gjq45_0_0) NN4 24 (by simp)) (by omega) (fun p hp => by simp at hp; rcases hp with rfl | rfl | rfl | rfl | rfl | rfl | rfl | rfl <;> exact .inr ⟨by simp, by simp only; omega⟩)) ?_ ReadyF.nil)
      have Hq45x15 := Hq45x12.set (gjq45_0_0) NN13 NN4 24 (Eq45x13.get (gjq45_0_0) NN4 24 (by simp)) (by omega) (m := [(g24, NN5, 24), (g17, NN2, 24), (g12, ZR1, 71), (g9, D0, 24), (g6, PB, 71), (w.heap.size, PA, 71), (gq27s0, NN7, 24), (gq27s1, NN9, 24)]) (fun p hp => by simp at hp; rcases hp with rfl | rfl | rfl | rfl | rfl | rfl | rfl | rfl <;> exact .inr ⟨by simp, by simp only; omega⟩)
      have Eq45x16 := Eq45x13.set (gjq45_0_0) NN13 NN4 24 (Eq45x13.get (gjq45_0_0) NN4 24 (by simp)) (by omega) (m := [(gjq45_0_0, NN13, 24)]) (fun p hp => by simp at hp; subst hp; first | exact .inl rfl | exact .inr ⟨by simp, by simp only; omega⟩)
      generalize wq45x11.setRow (gjq45_0_0) NN13 = wq45x14 at *
      refine AnyF.done (by kernel_rfl) ?_ _
      refine nrm_intro ⟨gjq45_0_0, rfl, (Hq45x15.app Eq45x16).sub (fun p hp => by simp at hp; rcases hp with rfl | rfl | rfl | rfl | rfl | rfl | rfl | rfl <;> simp), by omega, by omega, by omega, by omega, by omega, by omega, by omega, by omega, by omega⟩
    intro Jq45_0
    refine F_have 2 #[true, true, true, true, false, true, false] (fun a W => ∃ gjq45_1_0, a = { tmps := #[.agg PA, .agg PB, .agg D0, .pointer (some ⟨w.heap.size, 0, none⟩), .pointer (some ⟨g6, 0, none⟩), .pointer (some ⟨g9, 0, none⟩), .pointer (some ⟨g12, 0, none⟩), .pointer (some ⟨g17, 0, none⟩), .pointer (some ⟨g24, 0, none⟩), .pointer (some ⟨gq27s0, 0, none⟩), .pointer (some ⟨gq27s1, 0, none⟩), .pointer (some ⟨gjq45_1_0, 0, none⟩), undef, undef, undef, .pointer (some ⟨w.heap.size, 8, none⟩), .agg Z10, .pointer (some ⟨g6, 8, none⟩), .agg Z20, .agg NN2, .agg NN2, .agg NN2, .agg NN5, .pointer (some ⟨w.heap.size, 0, none⟩), .agg X10, .pointer (some ⟨g6, 0, none⟩), .agg X20, .agg NN7, .pointer (some ⟨w.heap.size, 4, none⟩), .agg Y10, .pointer (some ⟨g6, 4, none⟩), .agg Y20, .agg NN9, .agg D0, .agg NN7, .agg NN9, .agg NN11, undef, undef, undef, undef, undef, undef, undef, undef, undef, undef, undef, undef, undef, undef, undef, undef, undef, undef, undef, undef, undef, undef, undef, undef, undef, undef, undef, undef, undef, undef, undef, undef, undef, undef, undef, undef, undef, undef], defers := [] } ∧ Kt w [(g24, NN5, 24), (g17, NN2, 24), (g12, ZR1, 71), (g9, D0, 24), (g6, PB, 71), (w.heap.size, PA, 71), (gq27s0, NN7, 24), (gq27s1, NN9, 24)] W ∧ Kt w [(gjq45_1_0, NN4, 24)] W ∧ w.heap.size ≤ gjq45_1_0 ∧ gjq45_1_0 ≠ g24 ∧ gjq45_1_0 ≠ g17 ∧ gjq45_1_0 ≠ g12 ∧ gjq45_1_0 ≠ g9 ∧ gjq45_1_0 ≠ g6 ∧ gjq45_1_0 ≠ w.heap.size ∧ gjq45_1_0 ≠ gq27s0 ∧ gjq45_1_0 ≠ gq27s1) ?_ ?_
    · rintro a wq45x17 ⟨gjq45_1_0, rfl, Hq45x18, Eq45x19, fJq45_1_0, fJq45_1_1, fJq45_1_2, fJq45_1_3, fJq45_1_4, fJq45_1_5, fJq45_1_6, fJq45_1_7, fJq45_1_8⟩
      refine rdy [4] (rcl (some 37) 34 #[.tmp 33, .tmp 36] #[24, 24] #[.agg D0, .agg NN11] en34 _ (HC14.out _) ?_ ReadyF.nil)
      rintro v wq45x20 ⟨he, hb⟩
      cases he
      have Hq45x21 := Hq45x18.below hb
      have Eq45x22 := Eq45x19.below hb
      clear hb
      refine ⟨Hq45x21, ?_⟩
      simp only [Act.put, sT, sS, sZ]
      exact F_to (by kernel_rfl) (by kernel_rfl) (Jq45_0 _ _ ⟨gjq45_1_0, rfl, Hq45x21, Eq45x22, by omega, by omega, by omega, by omega, by omega, by omega, by omega, by omega, by omega⟩)
    intro Jq45_1
    refine tkG 0 (some 33) (.load 24 (.tmp 5)) none (.agg D0) (fun o ho w2 hw => exec_load_of _ 24 (.tmp 5) ho ⟨g9, 0, none⟩ rfl _ (loadA24 ID0 (hw.get (g9) D0 24 (by simp)))) HDq45x1 ?_
    simp only [Act.put, sT, sS, sZ]
    refine tkG 1 (some 34) (.load 24 (.tmp 9)) none (.agg NN7) (fun o ho w2 hw => exec_load_of _ 24 (.tmp 9) ho ⟨gq27s0, 0, none⟩ rfl _ (loadA24 INN7 (hw.get (gq27s0) NN7 24 (by simp)))) HDq45x1 ?_
    simp only [Act.put, sT, sS, sZ]
    refine tkG 2 (some 35) (.load 24 (.tmp 10)) none (.agg NN9) (fun o ho w2 hw => exec_load_of _ 24 (.tmp 10) ho ⟨gq27s1, 0, none⟩ rfl _ (loadA24 INN9 (hw.get (gq27s1) NN9 24 (by simp)))) HDq45x1 ?_
    simp only [Act.put, sT, sS, sZ]
    refine rdy [3, 5] (rcl (some 36) 34 #[.tmp 34, .tmp 35] #[24, 24] #[.agg NN7, .agg NN9] en34 _ (HC12.out _) ?_ (ral 11 24 HZ24 (HDq45x1.alloc _) ?_ ReadyF.nil))
    · rintro v wq45x23 ⟨he, hb⟩
      cases he
      have Hq45x24 := HDq45x1.below hb
      clear hb
      refine ⟨Hq45x24, ?_⟩
      simp only [Act.put, sT, sS, sZ]
      refine rdy [4, 5] (rcl (some 37) 34 #[.tmp 33, .tmp 36] #[24, 24] #[.agg D0, .agg NN11] en34 _ (HC14.out _) ?_ (ral 11 24 HZ24 (Hq45x24.alloc _) ?_ ReadyF.nil))
      · rintro v wq45x25 ⟨he, hb⟩
        cases he
        have Hq45x26 := Hq45x24.below hb
        clear hb
        refine ⟨Hq45x26, ?_⟩
        simp only [Act.put, sT, sS, sZ]
        refine rdy [5] (ral 11 24 HZ24 (Hq45x26.alloc _) ?_ ReadyF.nil)
        have l0wq45x27 := Hq45x26.lt (g24) NN5 24 (by simp)
        have l1wq45x27 := Hq45x26.lt (g17) NN2 24 (by simp)
        have l2wq45x27 := Hq45x26.lt (g12) ZR1 71 (by simp)
        have l3wq45x27 := Hq45x26.lt (g9) D0 24 (by simp)
        have l4wq45x27 := Hq45x26.lt (g6) PB 71 (by simp)
        have l5wq45x27 := Hq45x26.lt (w.heap.size) PA 71 (by simp)
        have l6wq45x27 := Hq45x26.lt (gq27s0) NN7 24 (by simp)
        have l7wq45x27 := Hq45x26.lt (gq27s1) NN9 24 (by simp)
        have bwq45x27 := Hq45x26.1.size
        have Hq45x28 := Hq45x26.alloc (.cells NN4 24)
        have Eq45x29 := (Hq45x26.sub (m := []) (fun p hp => by cases hp)).new NN4 24
        simp only [Act.put, sT, sS, sZ]
        obtain ⟨wq45x27, hwq45x27⟩ : ∃ W, W = wq45x25.alloc (.cells NN4 24) := ⟨_, rfl⟩
        rw [← hwq45x27] at Hq45x28 Eq45x29 ⊢
        clear hwq45x27
        exact F_to (by kernel_rfl) (by kernel_rfl) (Jq45_0 _ _ ⟨wq45x25.heap.size, rfl, Hq45x28, Eq45x29, by omega, by omega, by omega, by omega, by omega, by omega, by omega, by omega, by omega⟩)
      · have l0wq45x30 := Hq45x24.lt (g24) NN5 24 (by simp)
        have l1wq45x30 := Hq45x24.lt (g17) NN2 24 (by simp)
        have l2wq45x30 := Hq45x24.lt (g12) ZR1 71 (by simp)
        have l3wq45x30 := Hq45x24.lt (g9) D0 24 (by simp)
        have l4wq45x30 := Hq45x24.lt (g6) PB 71 (by simp)
        have l5wq45x30 := Hq45x24.lt (w.heap.size) PA 71 (by simp)
        have l6wq45x30 := Hq45x24.lt (gq27s0) NN7 24 (by simp)
        have l7wq45x30 := Hq45x24.lt (gq27s1) NN9 24 (by simp)
        have bwq45x30 := Hq45x24.1.size
        have Hq45x31 := Hq45x24.alloc (.cells NN4 24)
        have Eq45x32 := (Hq45x24.sub (m := []) (fun p hp => by cases hp)).new NN4 24
        simp only [Act.put, sT, sS, sZ]
        obtain ⟨wq45x30, hwq45x30⟩ : ∃ W, W = wq45x23.alloc (.cells NN4 24) := ⟨_, rfl⟩
        rw [← hwq45x30] at Hq45x31 Eq45x32 ⊢
        clear hwq45x30
        exact F_to (by kernel_rfl) (by kernel_rfl) (Jq45_1 _ _ ⟨wq45x23.heap.size, rfl, Hq45x31, Eq45x32, by omega, by omega, by omega, by omega, by omega, by omega, by omega, by omega, by omega⟩)
    · have l0wq45x33 := HDq45x1.lt (g24) NN5 24 (by simp)
      have l1wq45x33 := HDq45x1.lt (g17) NN2 24 (by simp)
      have l2wq45x33 := HDq45x1.lt (g12) ZR1 71 (by simp)
      have l3wq45x33 := HDq45x1.lt (g9) D0 24 (by simp)
      have l4wq45x33 := HDq45x1.lt (g6) PB 71 (by simp)
      have l5wq45x33 := HDq45x1.lt (w.heap.size) PA 71 (by simp)
      have l6wq45x33 := HDq45x1.lt (gq27s0) NN7 24 (by simp)
      have l7wq45x33 := HDq45x1.lt (gq27s1) NN9 24 (by simp)
      have bwq45x33 := HDq45x1.1.size
      have Hq45x34 := HDq45x1.alloc (.cells NN4 24)
      have Eq45x35 := (HDq45x1.sub (m := []) (fun p hp => by cases hp)).new NN4 24
      simp only [Act.put, sT, sS, sZ]
      obtain ⟨wq45x33, hwq45x33⟩ : ∃ W, W = wdq45x2.alloc (.cells NN4 24) := ⟨_, rfl⟩
      rw [← hwq45x33] at Hq45x34 Eq45x35 ⊢
      clear hwq45x33
      refine rdy [3] (rcl (some 36) 34 #[.tmp 34, .tmp 35] #[24, 24] #[.agg NN7, .agg NN9] en34 _ (HC12.out _) ?_ ReadyF.nil)
      rintro v wq45x36 ⟨he, hb⟩
      cases he
      have Hq45x37 := Hq45x34.below hb
      have Eq45x38 := Eq45x35.below hb
      clear hb
      refine ⟨Hq45x37, ?_⟩
      simp only [Act.put, sT, sS, sZ]
      exact F_to (by kernel_rfl) (by kernel_rfl) (Jq45_1 _ _ ⟨wdq45x2.heap.size, rfl, Hq45x37, Eq45x38, by omega, by omega, by omega, by omega, by omega, by omega, by omega, by omega, by omega⟩)
  rintro a' w46 ⟨gq45s0, rfl, hk, e48, e49, e50, e51, e52, e53, e54, e55, e56⟩
  have HS47 := Lib.hid hk
  clear hk HS29
  go_upto_region 5 with fail
  refine wp_cut (fun a' W' => ∃ gq57s0 gq57s1, a' = { tmps := #[.agg PA, .agg PB, .agg D0, .pointer (some ⟨w.heap.size, 0, none⟩), .pointer (some ⟨g6, 0, none⟩), .pointer (some ⟨g9, 0, none⟩), .pointer (some ⟨g12, 0, none⟩), .pointer (some ⟨g17, 0, none⟩), .pointer (some ⟨g24, 0, none⟩), .pointer (some ⟨gq27s0, 0, none⟩), .pointer (some ⟨gq27s1, 0, none⟩), .pointer (some ⟨gq45s0, 0, none⟩), .pointer (some ⟨gq57s0, 0, none⟩), .pointer (some ⟨gq57s1, 0, none⟩), undef, .pointer (some ⟨w.heap.size, 8, none⟩), .agg Z10, .pointer (some ⟨g6, 8, none⟩), .agg Z20, .agg NN2, .agg NN2, .agg NN2, .agg NN5, .pointer (some ⟨w.heap.size, 0, none⟩), .agg X10, .pointer (some ⟨g6, 0, none⟩), .agg X20, .agg NN7, .pointer (some ⟨w.heap.size, 4, none⟩), .agg Y10, .pointer (some ⟨g6, 4, none⟩), .agg Y20, .agg NN9, .agg D0, .agg NN7, .agg NN9, .agg NN11, .agg NN13, .agg NN5, .agg NN13, .agg NN15, .agg NN5, .agg NN13, .agg NN17, undef, undef, undef, undef, undef, undef, undef, undef, undef, undef, undef, undef, undef, undef, undef, undef, undef, undef, undef, undef, undef, undef, undef, undef, undef, undef, undef, undef, undef, undef, undef], defers := [] } ∧ Kt w [(g17, NN2, 24), (g12, ZR1, 71), (g6, PB, 71), (w.heap.size, PA, 71), (gq27s0, NN7, 24), (gq27s1, NN9, 24), (gq57s0, NN15, 24), (gq57s1, NN17, 24)] W' ∧ w.heap.size ≤ gq57s0 ∧ w.heap.size ≤ gq57s1 ∧ gq57s0 ≠ g24 ∧ gq57s0 ≠ g17 ∧ gq57s0 ≠ g12 ∧ gq57s0 ≠ g6 ∧ gq57s0 ≠ w.heap.size ∧ gq57s0 ≠ gq27s0 ∧ gq57s0 ≠ gq27s1 ∧ gq57s0 ≠ gq45s0 ∧ gq57s1 ≠ g24 ∧ gq57s1 ≠ g17 ∧ gq57s1 ≠ g12 ∧ gq57s1 ≠ g6 ∧ gq57s1 ≠ w.heap.size ∧ gq57s1 ≠ gq27s0 ∧ gq57s1 ≠ gq27s1 ∧ gq57s1 ≠ gq45s0 ∧ gq57s1 ≠ gq57s0) ?_ ?_
  · refine wp_region_any (by kernel_rfl) ?_
    change wpAny _ _ _ _ _ _ _ (World.drew _)
    have HDq57x1 := HS47.out.drew
    clear HS47
    generalize w46.drew = wdq57x2 at *
    refine any_of_F (S := Kt w [(g24, NN5, 24), (g17, NN2, 24), (g12, ZR1, 71), (g6, PB, 71), (w.heap.size, PA, 71), (gq27s0, NN7, 24), (gq27s1, NN9, 24), (gq45s0, NN13, 24)]) (f := 1000) _ _ _ _ ?_
    refine F_have 2 #[true, true, true, true, true, true, true, true, false, false] (fun a W => ∃ gjq57_0_0 gjq57_0_1, a = { tmps := #[.agg PA, .agg PB, .agg D0, .pointer (some ⟨w.heap.size, 0, none⟩), .pointer (some ⟨g6, 0, none⟩), .pointer (some ⟨g9, 0, none⟩), .pointer (some ⟨g12, 0, none⟩), .pointer (some ⟨g17, 0, none⟩), .pointer (some ⟨g24, 0, none⟩), .pointer (some ⟨gq27s0, 0, none⟩), .pointer (some ⟨gq27s1, 0, none⟩), .pointer (some ⟨gq45s0, 0, none⟩), .pointer (some ⟨gjq57_0_0, 0, none⟩), .pointer (some ⟨gjq57_0_1, 0, none⟩), undef, .pointer (some ⟨w.heap.size, 8, none⟩), .agg Z10, .pointer (some ⟨g6, 8, none⟩), .agg Z20, .agg NN2, .agg NN2, .agg NN2, .agg NN5, .pointer (some ⟨w.heap.size, 0, none⟩), .agg X10, .pointer (some ⟨g6, 0, none⟩), .agg X20, .agg NN7, .pointer (some ⟨w.heap.size, 4, none⟩), .agg Y10, .pointer (some ⟨g6, 4, none⟩), .agg Y20, .agg NN9, .agg D0, .agg NN7, .agg NN9, .agg NN11, .agg NN13, .agg NN5, .agg NN13, .agg NN15, .agg NN5, .agg NN13, .agg NN17, undef, undef, undef, undef, undef, undef, undef, undef, undef, undef, undef, undef, undef, undef, undef, undef, undef, undef, undef, undef, undef, undef, undef, undef, undef, undef, undef, undef, undef, undef, undef], defers := [] } ∧ Kt w [(g24, NN5, 24), (g17, NN2, 24), (g12, ZR1, 71), (g6, PB, 71), (w.heap.size, PA, 71), (gq27s0, NN7, 24), (gq27s1, NN9, 24), (gq45s0, NN13, 24)] W ∧ Kt w [(gjq57_0_0, NN4, 24), (gjq57_0_1, NN4, 24)] W ∧ w.heap.size ≤ gjq57_0_0 ∧ w.heap.size ≤ gjq57_0_1 ∧ gjq57_0_0 ≠ g24 ∧ gjq57_0_0 ≠ g17 ∧ gjq57_0_0 ≠ g12 ∧ gjq57_0_0 ≠ g6 ∧ gjq57_0_0 ≠ w.heap.size ∧ gjq57_0_0 ≠ gq27s0 ∧ gjq57_0_0 ≠ gq27s1 ∧ gjq57_0_0 ≠ gq45s0 ∧ gjq57_0_1 ≠ g24 ∧ gjq57_0_1 ≠ g17 ∧ gjq57_0_1 ≠ g12 ∧ gjq57_0_1 ≠ g6 ∧ gjq57_0_1 ≠ w.heap.size ∧ gjq57_0_1 ≠ gq27s0 ∧ gjq57_0_1 ≠ gq27s1 ∧ gjq57_0_1 ≠ gq45s0 ∧ gjq57_0_1 ≠ gjq57_0_0) ?_ ?_
    · rintro a wq57x11 ⟨gjq57_0_0, gjq57_0_1, rfl, Hq57x12, Eq57x13, fJq57_0_0, fJq57_0_1, fJq57_0_2, fJq57_0_3, fJq57_0_4, fJq57_0_5, fJq57_0_6, fJq57_0_7, fJq57_0_8, fJq57_0_9, fJq57_0_10, fJq57_0_11, fJq57_0_12, fJq57_0_13, fJq57_0_14, fJq57_0_15, fJq57_0_16, fJq57_0_17, fJq57_0_18⟩
      refine rdy [8] (ReadyF.op0 (.store 24 (.tmp 12) (.tmp 40)) rfl (fun o ho => exec_store24 wq57x11 (.tmp 12) (.tmp 40) ho (gjq57_0_0) rfl NN15 INN15 rfl NN4 24 (Eq57x13.get (gjq57_0_0) NN4 24 (by simp)) SZNN4) (Hq57x12.set (gjq57_0_0) NN15 NN4 24 (Eq57x13.get (gjq57_0_0) NN4 24 (by simp)) (by omega) (fun p hp => by simp at hp; rcases hp with rfl | rfl | rfl | rfl | rfl | rfl | rfl | rfl <;> exact .inr ⟨by simp, by simp only; omega⟩)) ?_ ReadyF.nil)
      have Hq57x15 := Hq57x12.set (gjq57_0_0) NN15 NN4 24 (Eq57x13.get (gjq57_0_0) NN4 24 (by simp)) (by omega) (m := [(g24, NN5, 24), (g17, NN2, 24), (g12, ZR1, 71), (g6, PB, 71), (w.heap.size, PA, 71), (gq27s0, NN7, 24), (gq27s1, NN9, 24), (gq45s0, NN13, 24)]) (fun p hp => by simp at hp; rcases hp with rfl | rfl | rfl | rfl | rfl | rfl | rfl | rfl <;> exact .inr ⟨by simp, by simp only; omega⟩)
      have Eq57x16 := Eq57x13.set (gjq57_0_0) NN15 NN4 24 (Eq57x13.get (gjq57_0_0) NN4 24 (by simp)) (by omega) (m := [(gjq57_0_0, NN15, 24), (gjq57_0_1, NN4, 24)]) (fun p hp => by simp at hp; rcases hp with rfl | rfl <;> first | exact .inl rfl | exact .inr ⟨by simp, by simp only; omega⟩)
      generalize wq57x11.setRow (gjq57_0_0) NN15 = wq57x14 at *
      refine rdy [9] (ReadyF.op0 (.store 24 (.tmp 13) (.tmp 43)) rfl (fun o ho => exec_store24 wq57x14 (.tmp 13) (.tmp 43) ho (gjq57_0_1) rfl NN17 INN17 rfl NN4 24 (Eq57x16.get (gjq57_0_1) NN4 24 (by simp)) SZNN4) (Hq57x15.set (gjq57_0_1) NN17 NN4 24 (Eq57x16.get (gjq57_0_1) NN4 24 (by simp)) (by omega) (fun p hp => by simp at hp; rcases hp with rfl | rfl | rfl | rfl | rfl | rfl | rfl | rfl <;> exact .inr ⟨by simp, by simp only; omega⟩)) ?_ ReadyF.nil)
      have Hq57x18 := Hq57x15.set (gjq57_0_1) NN17 NN4 24 (Eq57x16.get (gjq57_0_1) NN4 24 (by simp)) (by omega) (m := [(g24, NN5, 24), (g17, NN2, 24), (g12, ZR1, 71), (g6, PB, 71), (w.heap.size, PA, 71), (gq27s0, NN7, 24), (gq27s1, NN9, 24), (gq45s0, NN13, 24)]) (fun p hp => by simp at hp; rcases hp with rfl | rfl | rfl | rfl | rfl | rfl | rfl | rfl <;> exact .inr ⟨by simp, by simp only; omega⟩)
      have Eq57x19 := Eq57x16.set (gjq57_0_1) NN17 NN4 24 (Eq57x16.get (gjq57_0_1) NN4 24 (by simp)) (by omega) (m := [(gjq57_0_0, NN15, 24), (gjq57_0_1, NN17, 24)]) (fun p hp => by simp at hp; rcases hp with rfl | rfl <;> first | exact .inl rfl | exact .inr ⟨by simp, by simp only; omega⟩)
      generalize wq57x14.setRow (gjq57_0_1) NN17 = wq57x17 at *
      refine AnyF.done (by kernel_rfl) ?_ _
      refine nrm_intro ⟨gjq57_0_0, gjq57_0_1, rfl, (Hq57x18.app Eq57x19).sub (fun p hp => by simp at hp; rcases hp with rfl | rfl | rfl | rfl | rfl | rfl | rfl | rfl <;> simp), by omega, by omega, by omega, by omega, by omega, by omega, by omega, by omega, by omega, by omega, by omega, by omega, by omega, by omega, by omega, by omega, by omega, by omega, by omega⟩
    intro Jq57_0
    refine F_have 3 #[true, true, true, true, true, true, true, false, false, false] (fun a W => ∃ gjq57_1_0, a = { tmps := #[.agg PA, .agg PB, .agg D0, .pointer (some ⟨w.heap.size, 0, none⟩), .pointer (some ⟨g6, 0, none⟩), .pointer (some ⟨g9, 0, none⟩), .pointer (some ⟨g12, 0, none⟩), .pointer (some ⟨g17, 0, none⟩), .pointer (some ⟨g24, 0, none⟩), .pointer (some ⟨gq27s0, 0, none⟩), .pointer (some ⟨gq27s1, 0, none⟩), .pointer (some ⟨gq45s0, 0, none⟩), .pointer (some ⟨gjq57_1_0, 0, none⟩), undef, undef, .pointer (some ⟨w.heap.size, 8, none⟩), .agg Z10, .pointer (some ⟨g6, 8, none⟩), .agg Z20, .agg NN2, .agg NN2, .agg NN2, .agg NN5, .pointer (some ⟨w.heap.size, 0, none⟩), .agg X10, .pointer (some ⟨g6, 0, none⟩), .agg X20, .agg NN7, .pointer (some ⟨w.heap.size, 4, none⟩), .agg Y10, .pointer (some ⟨g6, 4, none⟩), .agg Y20, .agg NN9, .agg D0, .agg NN7, .agg NN9, .agg NN11, .agg NN13, .agg NN5, .agg NN13, .agg NN15, .agg NN5, .agg NN13, .agg NN17, undef, undef, undef, undef, undef, undef, undef, undef, undef, undef, undef, undef, undef, undef, undef, undef, undef, undef, undef, undef, undef, undef, undef, undef, undef, undef, undef, undef, undef, undef, undef], defers := [] } ∧ Kt w [(g24, NN5, 24), (g17, NN2, 24), (g12, ZR1, 71), (g6, PB, 71), (w.heap.size, PA, 71), (gq27s0, NN7, 24), (gq27s1, NN9, 24), (gq45s0, NN13, 24)] W ∧ Kt w [(gjq57_1_0, NN4, 24)] W ∧ w.heap.size ≤ gjq57_1_0 ∧ gjq57_1_0 ≠ g24 ∧ gjq57_1_0 ≠ g17 ∧ gjq57_1_0 ≠ g12 ∧ gjq57_1_0 ≠ g6 ∧ gjq57_1_0 ≠ w.heap.size ∧ gjq57_1_0 ≠ gq27s0 ∧ gjq57_1_0 ≠ gq27s1 ∧ gjq57_1_0 ≠ gq45s0) ?_ ?_
    · rintro a wq57x20 ⟨gjq57_1_0, rfl, Hq57x21, Eq57x22, fJq57_1_0, fJq57_1_1, fJq57_1_2, fJq57_1_3, fJq57_1_4, fJq57_1_5, fJq57_1_6, fJq57_1_7, fJq57_1_8⟩
      refine rdy [7] (ral 13 24 HZ24 (Hq57x21.alloc _) ?_ ReadyF.nil)
      have l0wq57x23 := Hq57x21.lt (g24) NN5 24 (by simp)
      have l1wq57x23 := Hq57x21.lt (g17) NN2 24 (by simp)
      have l2wq57x23 := Hq57x21.lt (g12) ZR1 71 (by simp)
      have l3wq57x23 := Hq57x21.lt (g6) PB 71 (by simp)
      have l4wq57x23 := Hq57x21.lt (w.heap.size) PA 71 (by simp)
      have l5wq57x23 := Hq57x21.lt (gq27s0) NN7 24 (by simp)
      have l6wq57x23 := Hq57x21.lt (gq27s1) NN9 24 (by simp)
      have l7wq57x23 := Hq57x21.lt (gq45s0) NN13 24 (by simp)
      have m0wq57x23 := Eq57x22.lt (gjq57_1_0) NN4 24 (by simp)
      have bwq57x23 := Hq57x21.1.size
      have Hq57x24 := Hq57x21.alloc (.cells NN4 24)
      have Eq57x25 := Eq57x22.new NN4 24
      simp only [Act.put, sT, sS, sZ]
      obtain ⟨wq57x23, hwq57x23⟩ : ∃ W, W = wq57x20.alloc (.cells NN4 24) := ⟨_, rfl⟩
      rw [← hwq57x23] at Hq57x24 Eq57x25 ⊢
      clear hwq57x23
      exact F_to (by kernel_rfl) (by kernel_rfl) (Jq57_0 _ _ ⟨gjq57_1_0, wq57x20.heap.size, rfl, Hq57x24, Eq57x25.sub (fun p hp => by simp at hp; rcases hp with rfl | rfl <;> simp), by omega, by omega, by omega, by omega, by omega, by omega, by omega, by omega, by omega, by omega, by omega, by omega, by omega, by omega, by omega, by omega, by omega, by omega, by omega⟩)
    intro Jq57_1
    refine F_have 3 #[true, true, true, true, true, true, false, true, false, false] (fun a W => ∃ gjq57_2_0, a = { tmps := #[.agg PA, .agg PB, .agg D0, .pointer (some ⟨w.heap.size, 0, none⟩), .pointer (some ⟨g6, 0, none⟩), .pointer (some ⟨g9, 0, none⟩), .pointer (some ⟨g12, 0, none⟩), .pointer (some ⟨g17, 0, none⟩), .pointer (some ⟨g24, 0, none⟩), .pointer (some ⟨gq27s0, 0, none⟩), .pointer (some ⟨gq27s1, 0, none⟩), .pointer (some ⟨gq45s0, 0, none⟩), undef, .pointer (some ⟨gjq57_2_0, 0, none⟩), undef, .pointer (some ⟨w.heap.size, 8, none⟩), .agg Z10, .pointer (some ⟨g6, 8, none⟩), .agg Z20, .agg NN2, .agg NN2, .agg NN2, .agg NN5, .pointer (some ⟨w.heap.size, 0, none⟩), .agg X10, .pointer (some ⟨g6, 0, none⟩), .agg X20, .agg NN7, .pointer (some ⟨w.heap.size, 4, none⟩), .agg Y10, .pointer (some ⟨g6, 4, none⟩), .agg Y20, .agg NN9, .agg D0, .agg NN7, .agg NN9, .agg NN11, .agg NN13, .agg NN5, .agg NN13, .agg NN15, .agg NN5, .agg NN13, .agg NN17, undef, undef, undef, undef, undef, undef, undef, undef, undef, undef, undef, undef, undef, undef, undef, undef, undef, undef, undef, undef, undef, undef, undef, undef, undef, undef, undef, undef, undef, undef, undef], defers := [] } ∧ Kt w [(g24, NN5, 24), (g17, NN2, 24), (g12, ZR1, 71), (g6, PB, 71), (w.heap.size, PA, 71), (gq27s0, NN7, 24), (gq27s1, NN9, 24), (gq45s0, NN13, 24)] W ∧ Kt w [(gjq57_2_0, NN4, 24)] W ∧ w.heap.size ≤ gjq57_2_0 ∧ gjq57_2_0 ≠ g24 ∧ gjq57_2_0 ≠ g17 ∧ gjq57_2_0 ≠ g12 ∧ gjq57_2_0 ≠ g6 ∧ gjq57_2_0 ≠ w.heap.size ∧ gjq57_2_0 ≠ gq27s0 ∧ gjq57_2_0 ≠ gq27s1 ∧ gjq57_2_0 ≠ gq45s0) ?_ ?_
    · rintro a wq57x26 ⟨gjq57_2_0, rfl, Hq57x27, Eq57x28, fJq57_2_0, fJq57_2_1, fJq57_2_2, fJq57_2_3, fJq57_2_4, fJq57_2_5, fJq57_2_6, fJq57_2_7, fJq57_2_8⟩
      refine rdy [6] (ral 12 24 HZ24 (Hq57x27.alloc _) ?_ ReadyF.nil)
      have l0wq57x29 := Hq57x27.lt (g24) NN5 24 (by simp)
      have l1wq57x29 := Hq57x27.lt (g17) NN2 24 (by simp)
      have l2wq57x29 := Hq57x27.lt (g12) ZR1 71 (by simp)
      have l3wq57x29 := Hq57x27.lt (g6) PB 71 (by simp)
      have l4wq57x29 := Hq57x27.lt (w.heap.size) PA 71 (by simp)
      have l5wq57x29 := Hq57x27.lt (gq27s0) NN7 24 (by simp)
      have l6wq57x29 := Hq57x27.lt (gq27s1) NN9 24 (by simp)
      have l7wq57x29 := Hq57x27.lt (gq45s0) NN13 24 (by simp)
      have m0wq57x29 := Eq57x28.lt (gjq57_2_0) NN4 24 (by simp)
      have bwq57x29 := Hq57x27.1.size
      have Hq57x30 := Hq57x27.alloc (.cells NN4 24)
      have Eq57x31 := Eq57x28.new NN4 24
      simp only [Act.put, sT, sS, sZ]
      obtain ⟨wq57x29, hwq57x29⟩ : ∃ W, W = wq57x26.alloc (.cells NN4 24) := ⟨_, rfl⟩
      rw [← hwq57x29] at Hq57x30 Eq57x31 ⊢
      clear hwq57x29
      exact F_to (by kernel_rfl) (by kernel_rfl) (Jq57_0 _ _ ⟨wq57x26.heap.size, gjq57_2_0, rfl, Hq57x30, Eq57x31, by omega, by omega, by omega, by omega, by omega, by omega, by omega, by omega, by omega, by omega, by omega, by omega, by omega, by omega, by omega, by omega, by omega, by omega, by omega⟩)
    intro Jq57_2
    refine F_have 3 #[true, true, true, true, true, false, true, true, false, false] (fun a W => ∃ gjq57_3_0 gjq57_3_1, a = { tmps := #[.agg PA, .agg PB, .agg D0, .pointer (some ⟨w.heap.size, 0, none⟩), .pointer (some ⟨g6, 0, none⟩), .pointer (some ⟨g9, 0, none⟩), .pointer (some ⟨g12, 0, none⟩), .pointer (some ⟨g17, 0, none⟩), .pointer (some ⟨g24, 0, none⟩), .pointer (some ⟨gq27s0, 0, none⟩), .pointer (some ⟨gq27s1, 0, none⟩), .pointer (some ⟨gq45s0, 0, none⟩), .pointer (some ⟨gjq57_3_0, 0, none⟩), .pointer (some ⟨gjq57_3_1, 0, none⟩), undef, .pointer (some ⟨w.heap.size, 8, none⟩), .agg Z10, .pointer (some ⟨g6, 8, none⟩), .agg Z20, .agg NN2, .agg NN2, .agg NN2, .agg NN5, .pointer (some ⟨w.heap.size, 0, none⟩), .agg X10, .pointer (some ⟨g6, 0, none⟩), .agg X20, .agg NN7, .pointer (some ⟨w.heap.size, 4, none⟩), .agg Y10, .pointer (some ⟨g6, 4, none⟩), .agg Y20, .agg NN9, .agg D0, .agg NN7, .agg NN9, .agg NN11, .agg NN13, .agg NN5, .agg NN13, .agg NN15, .agg NN5, .agg NN13, undef, undef, undef, undef, undef, undef, undef, undef, undef, undef, undef, undef, undef, undef, undef, undef, undef, undef, undef, undef, undef, undef, undef, undef, undef, undef, undef, undef, undef, undef, undef, undef], defers := [] } ∧ Kt w [(g24, NN5, 24), (g17, NN2, 24), (g12, ZR1, 71), (g6, PB, 71), (w.heap.size, PA, 71), (gq27s0, NN7, 24), (gq27s1, NN9, 24), (gq45s0, NN13, 24)] W ∧ Kt w [(gjq57_3_0, NN4, 24), (gjq57_3_1, NN4, 24)] W ∧ w.heap.size ≤ gjq57_3_0 ∧ w.heap.size ≤ gjq57_3_1 ∧ gjq57_3_0 ≠ g24 ∧ gjq57_3_0 ≠ g17 ∧ gjq57_3_0 ≠ g12 ∧ gjq57_3_0 ≠ g6 ∧ gjq57_3_0 ≠ w.heap.size ∧ gjq57_3_0 ≠ gq27s0 ∧ gjq57_3_0 ≠ gq27s1 ∧ gjq57_3_0 ≠ gq45s0 ∧ gjq57_3_1 ≠ g24 ∧ gjq57_3_1 ≠ g17 ∧ gjq57_3_1 ≠ g12 ∧ gjq57_3_1 ≠ g6 ∧ gjq57_3_1 ≠ w.heap.size ∧ gjq57_3_1 ≠ gq27s0 ∧ gjq57_3_1 ≠ gq27s1 ∧ gjq57_3_1 ≠ gq45s0 ∧ gjq57_3_1 ≠ gjq57_3_0) ?_ ?_
    · rintro a wq57x32 ⟨gjq57_3_0, gjq57_3_1, rfl, Hq57x33, Eq57x34, fJq57_3_0, fJq57_3_1, fJq57_3_2, fJq57_3_3, fJq57_3_4, fJq57_3_5, fJq57_3_6, fJq57_3_7, fJq57_3_8, fJq57_3_9, fJq57_3_10, fJq57_3_11, fJq57_3_12, fJq57_3_13, fJq57_3_14, fJq57_3_15, fJq57_3_16, fJq57_3_17, fJq57_3_18⟩
      refine rdy [5] (rcl (some 43) 37 #[.tmp 41, .tmp 42] #[24, 24] #[.agg NN5, .agg NN13] en37 _ (HC18.out _) ?_ ReadyF.nil)
      rintro v wq57x35 ⟨he, hb⟩
      cases he
      have Hq57x36 := Hq57x33.below hb
      have Eq57x37 := Eq57x34.below hb
      clear hb
      refine ⟨Hq57x36, ?_⟩
      simp only [Act.put, sT, sS, sZ]
      exact F_to (by kernel_rfl) (by kernel_rfl) (Jq57_0 _ _ ⟨gjq57_3_0, gjq57_3_1, rfl, Hq57x36, Eq57x37, by omega, by omega, by omega, by omega, by omega, by omega, by omega, by omega, by omega, by omega, by omega, by omega, by omega, by omega, by omega, by omega, by omega, by omega, by omega⟩)
    intro Jq57_3
    refine F_have 4 #[true, true, true, true, true, false, true, false, false, false] (fun a W => ∃ gjq57_4_0, a = { tmps := #[.agg PA, .agg PB, .agg D0, .pointer (some ⟨w.heap.size, 0, none⟩), .pointer (some ⟨g6, 0, none⟩), .pointer (some ⟨g9, 0, none⟩), .pointer (some ⟨g12, 0, none⟩), .pointer (some ⟨g17, 0, none⟩), .pointer (some ⟨g24, 0, none⟩), .pointer (some ⟨gq27s0, 0, none⟩), .pointer (some ⟨gq27s1, 0, none⟩), .pointer (some ⟨gq45s0, 0, none⟩), .pointer (some ⟨gjq57_4_0, 0, none⟩), undef, undef, .pointer (some ⟨w.heap.size, 8, none⟩), .agg Z10, .pointer (some ⟨g6, 8, none⟩), .agg Z20, .agg NN2, .agg NN2, .agg NN2, .agg NN5, .pointer (some ⟨w.heap.size, 0, none⟩), .agg X10, .pointer (some ⟨g6, 0, none⟩), .agg X20, .agg NN7, .pointer (some ⟨w.heap.size, 4, none⟩), .agg Y10, .pointer (some ⟨g6, 4, none⟩), .agg Y20, .agg NN9, .agg D0, .agg NN7, .agg NN9, .agg NN11, .agg NN13, .agg NN5, .agg NN13, .agg NN15, .agg NN5, .agg NN13, undef, undef, undef, undef, undef, undef, undef, undef, undef, undef, undef, undef, undef, undef, undef, undef, undef, undef, undef, undef, undef, undef, undef, undef, undef, undef, undef, undef, undef, undef, undef, undef], defers := [] } ∧ Kt w [(g24, NN5, 24), (g17, NN2, 24), (g12, ZR1, 71), (g6, PB, 71), (w.heap.size, PA, 71), (gq27s0, NN7, 24), (gq27s1, NN9, 24), (gq45s0, NN13, 24)] W ∧ Kt w [(gjq57_4_0, NN4, 24)] W ∧ w.heap.size ≤ gjq57_4_0 ∧ gjq57_4_0 ≠ g24 ∧ gjq57_4_0 ≠ g17 ∧ gjq57_4_0 ≠ g12 ∧ gjq57_4_0 ≠ g6 ∧ gjq57_4_0 ≠ w.heap.size ∧ gjq57_4_0 ≠ gq27s0 ∧ gjq57_4_0 ≠ gq27s1 ∧ gjq57_4_0 ≠ gq45s0) ?_ ?_
    · rintro a wq57x38 ⟨gjq57_4_0, rfl, Hq57x39, Eq57x40, fJq57_4_0, fJq57_4_1, fJq57_4_2, fJq57_4_3, fJq57_4_4, fJq57_4_5, fJq57_4_6, fJq57_4_7, fJq57_4_8⟩
      refine rdy [5, 7] (rcl (some 43) 37 #[.tmp 41, .tmp 42] #[24, 24] #[.agg NN5, .agg NN13] en37 _ (HC18.out _) ?_ (ral 13 24 HZ24 (Hq57x39.alloc _) ?_ ReadyF.nil))
      · rintro v wq57x41 ⟨he, hb⟩
        cases he
        have Hq57x42 := Hq57x39.below hb
        have Eq57x43 := Eq57x40.below hb
        clear hb
        refine ⟨Hq57x42, ?_⟩
        simp only [Act.put, sT, sS, sZ]
        exact F_to (by kernel_rfl) (by kernel_rfl) (Jq57_1 _ _ ⟨gjq57_4_0, rfl, Hq57x42, Eq57x43, by omega, by omega, by omega, by omega, by omega, by omega, by omega, by omega, by omega⟩)
      · have l0wq57x44 := Hq57x39.lt (g24) NN5 24 (by simp)
        have l1wq57x44 := Hq57x39.lt (g17) NN2 24 (by simp)
        have l2wq57x44 := Hq57x39.lt (g12) ZR1 71 (by simp)
        have l3wq57x44 := Hq57x39.lt (g6) PB 71 (by simp)
        have l4wq57x44 := Hq57x39.lt (w.heap.size) PA 71 (by simp)
        have l5wq57x44 := Hq57x39.lt (gq27s0) NN7 24 (by simp)
        have l6wq57x44 := Hq57x39.lt (gq27s1) NN9 24 (by simp)
        have l7wq57x44 := Hq57x39.lt (gq45s0) NN13 24 (by simp)
        have m0wq57x44 := Eq57x40.lt (gjq57_4_0) NN4 24 (by simp)
        have bwq57x44 := Hq57x39.1.size
        have Hq57x45 := Hq57x39.alloc (.cells NN4 24)
        have Eq57x46 := Eq57x40.new NN4 24
        simp only [Act.put, sT, sS, sZ]
        obtain ⟨wq57x44, hwq57x44⟩ : ∃ W, W = wq57x38.alloc (.cells NN4 24) := ⟨_, rfl⟩
        rw [← hwq57x44] at Hq57x45 Eq57x46 ⊢
        clear hwq57x44
        exact F_to (by kernel_rfl) (by kernel_rfl) (Jq57_3 _ _ ⟨gjq57_4_0, wq57x38.heap.size, rfl, Hq57x45, Eq57x46.sub (fun p hp => by simp at hp; rcases hp with rfl | rfl <;> simp), by omega, by omega, by omega, by omega, by omega, by omega, by omega, by omega, by omega, by omega, by omega, by omega, by omega, by omega, by omega, by omega, by omega, by omega, by omega⟩)
    intro Jq57_4
    refine F_have 4 #[true, true, true, true, true, false, false, true, false, false] (fun a W => ∃ gjq57_5_0, a = { tmps := #[.agg PA, .agg PB, .agg D0, .pointer (some ⟨w.heap.size, 0, none⟩), .pointer (some ⟨g6, 0, none⟩), .pointer (some ⟨g9, 0, none⟩), .pointer (some ⟨g12, 0, none⟩), .pointer (some ⟨g17, 0, none⟩), .pointer (some ⟨g24, 0, none⟩), .pointer (some ⟨gq27s0, 0, none⟩), .pointer (some ⟨gq27s1, 0, none⟩), .pointer (some ⟨gq45s0, 0, none⟩), undef, .pointer (some ⟨gjq57_5_0, 0, none⟩), undef, .pointer (some ⟨w.heap.size, 8, none⟩), .agg Z10, .pointer (some ⟨g6, 8, none⟩), .agg Z20, .agg NN2, .agg NN2, .agg NN2, .agg NN5, .pointer (some ⟨w.heap.size, 0, none⟩), .agg X10, .pointer (some ⟨g6, 0, none⟩), .agg X20, .agg NN7, .pointer (some ⟨w.heap.size, 4, none⟩), .agg Y10, .pointer (some ⟨g6, 4, none⟩), .agg Y20, .agg NN9, .agg D0, .agg NN7, .agg NN9, .agg NN11, .agg NN13, .agg NN5, .agg NN13, .agg NN15, .agg NN5, .agg NN13, undef, undef, undef, undef, undef, undef, undef, undef, undef, undef, undef, undef, undef, undef, undef, undef, undef, undef, undef, undef, undef, undef, undef, undef, undef, undef, undef, undef, undef, undef, undef, undef], defers := [] } ∧ Kt w [(g24, NN5, 24), (g17, NN2, 24), (g12, ZR1, 71), (g6, PB, 71), (w.heap.size, PA, 71), (gq27s0, NN7, 24), (gq27s1, NN9, 24), (gq45s0, NN13, 24)] W ∧ Kt w [(gjq57_5_0, NN4, 24)] W ∧ w.heap.size ≤ gjq57_5_0 ∧ gjq57_5_0 ≠ g24 ∧ gjq57_5_0 ≠ g17 ∧ gjq57_5_0 ≠ g12 ∧ gjq57_5_0 ≠ g6 ∧ gjq57_5_0 ≠ w.heap.size ∧ gjq57_5_0 ≠ gq27s0 ∧ gjq57_5_0 ≠ gq27s1 ∧ gjq57_5_0 ≠ gq45s0) ?_ ?_
    · rintro a wq57x47 ⟨gjq57_5_0, rfl, Hq57x48, Eq57x49, fJq57_5_0, fJq57_5_1, fJq57_5_2, fJq57_5_3, fJq57_5_4, fJq57_5_5, fJq57_5_6, fJq57_5_7, fJq57_5_8⟩
      refine rdy [5, 6] (rcl (some 43) 37 #[.tmp 41, .tmp 42] #[24, 24] #[.agg NN5, .agg NN13] en37 _ (HC18.out _) ?_ (ral 12 24 HZ24 (Hq57x48.alloc _) ?_ ReadyF.nil))
      · rintro v wq57x50 ⟨he, hb⟩
        cases he
        have Hq57x51 := Hq57x48.below hb
        have Eq57x52 := Eq57x49.below hb
        clear hb
        refine ⟨Hq57x51, ?_⟩
        simp only [Act.put, sT, sS, sZ]
        exact F_to (by kernel_rfl) (by kernel_rfl) (Jq57_2 _ _ ⟨gjq57_5_0, rfl, Hq57x51, Eq57x52, by omega, by omega, by omega, by omega, by omega, by omega, by omega, by omega, by omega⟩)
      · have l0wq57x53 := Hq57x48.lt (g24) NN5 24 (by simp)
        have l1wq57x53 := Hq57x48.lt (g17) NN2 24 (by simp)
        have l2wq57x53 := Hq57x48.lt (g12) ZR1 71 (by simp)
        have l3wq57x53 := Hq57x48.lt (g6) PB 71 (by simp)
        have l4wq57x53 := Hq57x48.lt (w.heap.size) PA 71 (by simp)
        have l5wq57x53 := Hq57x48.lt (gq27s0) NN7 24 (by simp)
        have l6wq57x53 := Hq57x48.lt (gq27s1) NN9 24 (by simp)
        have l7wq57x53 := Hq57x48.lt (gq45s0) NN13 24 (by simp)
        have m0wq57x53 := Eq57x49.lt (gjq57_5_0) NN4 24 (by simp)
        have bwq57x53 := Hq57x48.1.size
        have Hq57x54 := Hq57x48.alloc (.cells NN4 24)
        have Eq57x55 := Eq57x49.new NN4 24
        simp only [Act.put, sT, sS, sZ]
        obtain ⟨wq57x53, hwq57x53⟩ : ∃ W, W = wq57x47.alloc (.cells NN4 24) := ⟨_, rfl⟩
        rw [← hwq57x53] at Hq57x54 Eq57x55 ⊢
        clear hwq57x53
        exact F_to (by kernel_rfl) (by kernel_rfl) (Jq57_3 _ _ ⟨wq57x47.heap.size, gjq57_5_0, rfl, Hq57x54, Eq57x55, by omega, by omega, by omega, by omega, by omega, by omega, by omega, by omega, by omega, by omega, by omega, by omega, by omega, by omega, by omega, by omega, by omega, by omega, by omega⟩)
    intro Jq57_5
    refine F_have 4 #[true, true, false, true, true, false, true, true, false, false] (fun a W => ∃ gjq57_6_0 gjq57_6_1, a = { tmps := #[.agg PA, .agg PB, .agg D0, .pointer (some ⟨w.heap.size, 0, none⟩), .pointer (some ⟨g6, 0, none⟩), .pointer (some ⟨g9, 0, none⟩), .pointer (some ⟨g12, 0, none⟩), .pointer (some ⟨g17, 0, none⟩), .pointer (some ⟨g24, 0, none⟩), .pointer (some ⟨gq27s0, 0, none⟩), .pointer (some ⟨gq27s1, 0, none⟩), .pointer (some ⟨gq45s0, 0, none⟩), .pointer (some ⟨gjq57_6_0, 0, none⟩), .pointer (some ⟨gjq57_6_1, 0, none⟩), undef, .pointer (some ⟨w.heap.size, 8, none⟩), .agg Z10, .pointer (some ⟨g6, 8, none⟩), .agg Z20, .agg NN2, .agg NN2, .agg NN2, .agg NN5, .pointer (some ⟨w.heap.size, 0, none⟩), .agg X10, .pointer (some ⟨g6, 0, none⟩), .agg X20, .agg NN7, .pointer (some ⟨w.heap.size, 4, none⟩), .agg Y10, .pointer (some ⟨g6, 4, none⟩), .agg Y20, .agg NN9, .agg D0, .agg NN7, .agg NN9, .agg NN11, .agg NN13, .agg NN5, .agg NN13, undef, .agg NN5, .agg NN13, undef, undef, undef, undef, undef, undef, undef, undef, undef, undef, undef, undef, undef, undef, undef, undef, undef, undef, undef, undef, undef, undef, undef, undef, undef, undef, undef, undef, undef, undef, undef, undef], defers := [] } ∧ Kt w [(g24, NN5, 24), (g17, NN2, 24), (g12, ZR1, 71), (g6, PB, 71), (w.heap.size, PA, 71), (gq27s0, NN7, 24), (gq27s1, NN9, 24), (gq45s0, NN13, 24)] W ∧ Kt w [(gjq57_6_0, NN4, 24), (gjq57_6_1, NN4, 24)] W ∧ w.heap.size ≤ gjq57_6_0 ∧ w.heap.size ≤ gjq57_6_1 ∧ gjq57_6_0 ≠ g24 ∧ gjq57_6_0 ≠ g17 ∧ gjq57_6_0 ≠ g12 ∧ gjq57_6_0 ≠ g6 ∧ gjq57_6_0 ≠ w.heap.size ∧ gjq57_6_0 ≠ gq27s0 ∧ gjq57_6_0 ≠ gq27s1 ∧ gjq57_6_0 ≠ gq45s0 ∧ gjq57_6_1 ≠ g24 ∧ gjq57_6_1 ≠ g17 ∧ gjq57_6_1 ≠ g12 ∧ gjq57_6_1 ≠ g6 ∧ gjq57_6_1 ≠ w.heap.size ∧ gjq57_6_1 ≠ gq27s0 ∧ gjq57_6_1 ≠ gq27s1 ∧ gjq57_6_1 ≠ gq45s0 ∧ gjq57_6_1 ≠ gjq57_6_0) ?_ ?_
    · rintro a wq57x56 ⟨gjq57_6_0, gjq57_6_1, rfl, Hq57x57, Eq57x58, fJq57_6_0, fJq57_6_1, fJq57_6_2, fJq57_6_3, fJq57_6_4, fJq57_6_5, fJq57_6_6, fJq57_6_7, fJq57_6_8, fJq57_6_9, fJq57_6_10, fJq57_6_11, fJq57_6_12, fJq57_6_13, fJq57_6_14, fJq57_6_15, fJq57_6_16, fJq57_6_17, fJq57_6_18⟩
      refine rdy [2] (rcl (some 40) 24 #[.tmp 38, .tmp 39] #[24, 24] #[.agg NN5, .agg NN13] en24 _ (HC16.out _) ?_ ReadyF.nil)
      rintro v wq57x59 ⟨he, hb⟩
      cases he
      have Hq57x60 := Hq57x57.below hb
      have Eq57x61 := Eq57x58.below hb
      clear hb
      refine ⟨Hq57x60, ?_⟩
      simp only [Act.put, sT, sS, sZ]
      exact F_to (by kernel_rfl) (by kernel_rfl) (Jq57_3 _ _ ⟨gjq57_6_0, gjq57_6_1, rfl, Hq57x60, Eq57x61, by omega, by omega, by omega, by omega, by omega, by omega, by omega, by omega, by omega, by omega, by omega, by omega, by omega, by omega, by omega, by omega, by omega, by omega, by omega⟩)
    intro Jq57_6
    refine tkG 0 (some 38) (.load 24 (.tmp 8)) none (.agg NN5) (fun o ho w2 hw => exec_load_of _ 24 (.tmp 8) ho ⟨g24, 0, none⟩ rfl _ (loadA24 INN5 (hw.get (g24) NN5 24 (by simp)))) HDq57x1 ?_
    simp only [Act.put, sT, sS, sZ]
    refine tkG 1 (some 39) (.load 24 (.tmp 11)) none (.agg NN13) (fun o ho w2 hw => exec_load_of _ 24 (.tmp 11) ho ⟨gq45s0, 0, none⟩ rfl _ (loadA24 INN13 (hw.get (gq45s0) NN13 24 (by simp)))) HDq57x1 ?_
    simp only [Act.put, sT, sS, sZ]
    refine tkG 3 (some 41) (.load 24 (.tmp 8)) none (.agg NN5) (fun o ho w2 hw => exec_load_of _ 24 (.tmp 8) ho ⟨g24, 0, none⟩ rfl _ (loadA24 INN5 (hw.get (g24) NN5 24 (by simp)))) HDq57x1 ?_
    simp only [Act.put, sT, sS, sZ]
    refine tkG 4 (some 42) (.load 24 (.tmp 11)) none (.agg NN13) (fun o ho w2 hw => exec_load_of _ 24 (.tmp 11) ho ⟨gq45s0, 0, none⟩ rfl _ (loadA24 INN13 (hw.get (gq45s0) NN13 24 (by simp)))) HDq57x1 ?_
    simp only [Act.put, sT, sS, sZ]
    refine rdy [2, 6, 7] (rcl (some 40) 24 #[.tmp 38, .tmp 39] #[24, 24] #[.agg NN5, .agg NN13] en24 _ (HC16.out _) ?_ (ral 12 24 HZ24 (HDq57x1.alloc _) ?_ (ral 13 24 HZ24 (HDq57x1.alloc _) ?_ ReadyF.nil)))
    · rintro v wq57x62 ⟨he, hb⟩
      cases he
      have Hq57x63 := HDq57x1.below hb
      clear hb
      refine ⟨Hq57x63, ?_⟩
      simp only [Act.put, sT, sS, sZ]
      refine rdy [5, 6, 7] (rcl (some 43) 37 #[.tmp 41, .tmp 42] #[24, 24] #[.agg NN5, .agg NN13] en37 _ (HC18.out _) ?_ (ral 12 24 HZ24 (Hq57x63.alloc _) ?_ (ral 13 24 HZ24 (Hq57x63.alloc _) ?_ ReadyF.nil)))
      · rintro v wq57x64 ⟨he, hb⟩
        cases he
        have Hq57x65 := Hq57x63.below hb
        clear hb
        refine ⟨Hq57x65, ?_⟩
        simp only [Act.put, sT, sS, sZ]
        refine rdy [6, 7] (ral 12 24 HZ24 (Hq57x65.alloc _) ?_ (ral 13 24 HZ24 (Hq57x65.alloc _) ?_ ReadyF.nil))
        · have l0wq57x66 := Hq57x65.lt (g24) NN5 24 (by simp)
          have l1wq57x66 := Hq57x65.lt (g17) NN2 24 (by simp)
          have l2wq57x66 := Hq57x65.lt (g12) ZR1 71 (by simp)
          have l3wq57x66 := Hq57x65.lt (g6) PB 71 (by simp)
          have l4wq57x66 := Hq57x65.lt (w.heap.size) PA 71 (by simp)
          have l5wq57x66 := Hq57x65.lt (gq27s0) NN7 24 (by simp)
          have l6wq57x66 := Hq57x65.lt (gq27s1) NN9 24 (by simp)
          have l7wq57x66 := Hq57x65.lt (gq45s0) NN13 24 (by simp)
          have bwq57x66 := Hq57x65.1.size
          have Hq57x67 := Hq57x65.alloc (.cells NN4 24)
          have Eq57x68 := (Hq57x65.sub (m := []) (fun p hp => by cases hp)).new NN4 24
          simp only [Act.put, sT, sS, sZ]
          obtain ⟨wq57x66, hwq57x66⟩ : ∃ W, W = wq57x64.alloc (.cells NN4 24) := ⟨_, rfl⟩
          rw [← hwq57x66] at Hq57x67 Eq57x68 ⊢
          clear hwq57x66
          exact F_to (by kernel_rfl) (by kernel_rfl) (Jq57_1 _ _ ⟨wq57x64.heap.size, rfl, Hq57x67, Eq57x68, by omega, by omega, by omega, by omega, by omega, by omega, by omega, by omega, by omega⟩)
        · have l0wq57x69 := Hq57x65.lt (g24) NN5 24 (by simp)
          have l1wq57x69 := Hq57x65.lt (g17) NN2 24 (by simp)
          have l2wq57x69 := Hq57x65.lt (g12) ZR1 71 (by simp)
          have l3wq57x69 := Hq57x65.lt (g6) PB 71 (by simp)
          have l4wq57x69 := Hq57x65.lt (w.heap.size) PA 71 (by simp)
          have l5wq57x69 := Hq57x65.lt (gq27s0) NN7 24 (by simp)
          have l6wq57x69 := Hq57x65.lt (gq27s1) NN9 24 (by simp)
          have l7wq57x69 := Hq57x65.lt (gq45s0) NN13 24 (by simp)
          have bwq57x69 := Hq57x65.1.size
          have Hq57x70 := Hq57x65.alloc (.cells NN4 24)
          have Eq57x71 := (Hq57x65.sub (m := []) (fun p hp => by cases hp)).new NN4 24
          simp only [Act.put, sT, sS, sZ]
          obtain ⟨wq57x69, hwq57x69⟩ : ∃ W, W = wq57x64.alloc (.cells NN4 24) := ⟨_, rfl⟩
          rw [← hwq57x69] at Hq57x70 Eq57x71 ⊢
          clear hwq57x69
          exact F_to (by kernel_rfl) (by kernel_rfl) (Jq57_2 _ _ ⟨wq57x64.heap.size, rfl, Hq57x70, Eq57x71, by omega, by omega, by omega, by omega, by omega, by omega, by omega, by omega, by omega⟩)
      · have l0wq57x72 := Hq57x63.lt (g24) NN5 24 (by simp)
        have l1wq57x72 := Hq57x63.lt (g17) NN2 24 (by simp)
        have l2wq57x72 := Hq57x63.lt (g12) ZR1 71 (by simp)
        have l3wq57x72 := Hq57x63.lt (g6) PB 71 (by simp)
        have l4wq57x72 := Hq57x63.lt (w.heap.size) PA 71 (by simp)
        have l5wq57x72 := Hq57x63.lt (gq27s0) NN7 24 (by simp)
        have l6wq57x72 := Hq57x63.lt (gq27s1) NN9 24 (by simp)
        have l7wq57x72 := Hq57x63.lt (gq45s0) NN13 24 (by simp)
        have bwq57x72 := Hq57x63.1.size
        have Hq57x73 := Hq57x63.alloc (.cells NN4 24)
        have Eq57x74 := (Hq57x63.sub (m := []) (fun p hp => by cases hp)).new NN4 24
        simp only [Act.put, sT, sS, sZ]
        obtain ⟨wq57x72, hwq57x72⟩ : ∃ W, W = wq57x62.alloc (.cells NN4 24) := ⟨_, rfl⟩
        rw [← hwq57x72] at Hq57x73 Eq57x74 ⊢
        clear hwq57x72
        exact F_to (by kernel_rfl) (by kernel_rfl) (Jq57_4 _ _ ⟨wq57x62.heap.size, rfl, Hq57x73, Eq57x74, by omega, by omega, by omega, by omega, by omega, by omega, by omega, by omega, by omega⟩)
      · have l0wq57x75 := Hq57x63.lt (g24) NN5 24 (by simp)
        have l1wq57x75 := Hq57x63.lt (g17) NN2 24 (by simp)
        have l2wq57x75 := Hq57x63.lt (g12) ZR1 71 (by simp)
        have l3wq57x75 := Hq57x63.lt (g6) PB 71 (by simp)
        have l4wq57x75 := Hq57x63.lt (w.heap.size) PA 71 (by simp)
        have l5wq57x75 := Hq57x63.lt (gq27s0) NN7 24 (by simp)
        have l6wq57x75 := Hq57x63.lt (gq27s1) NN9 24 (by simp)
        have l7wq57x75 := Hq57x63.lt (gq45s0) NN13 24 (by simp)
        have bwq57x75 := Hq57x63.1.size
        have Hq57x76 := Hq57x63.alloc (.cells NN4 24)
        have Eq57x77 := (Hq57x63.sub (m := []) (fun p hp => by cases hp)).new NN4 24
        simp only [Act.put, sT, sS, sZ]
        obtain ⟨wq57x75, hwq57x75⟩ : ∃ W, W = wq57x62.alloc (.cells NN4 24) := ⟨_, rfl⟩
        rw [← hwq57x75] at Hq57x76 Eq57x77 ⊢
        clear hwq57x75
        exact F_to (by kernel_rfl) (by kernel_rfl) (Jq57_5 _ _ ⟨wq57x62.heap.size, rfl, Hq57x76, Eq57x77, by omega, by omega, by omega, by omega, by omega, by omega, by omega, by omega, by omega⟩)
    · have l0wq57x78 := HDq57x1.lt (g24) NN5 24 (by simp)
      have l1wq57x78 := HDq57x1.lt (g17) NN2 24 (by simp)
      have l2wq57x78 := HDq57x1.lt (g12) ZR1 71 (by simp)
      have l3wq57x78 := HDq57x1.lt (g6) PB 71 (by simp)
      have l4wq57x78 := HDq57x1.lt (w.heap.size) PA 71 (by simp)
      have l5wq57x78 := HDq57x1.lt (gq27s0) NN7 24 (by simp)
      have l6wq57x78 := HDq57x1.lt (gq27s1) NN9 24 (by simp)
      have l7wq57x78 := HDq57x1.lt (gq45s0) NN13 24 (by simp)
      have bwq57x78 := HDq57x1.1.size
      have Hq57x79 := HDq57x1.alloc (.cells NN4 24)
      have Eq57x80 := (HDq57x1.sub (m := []) (fun p hp => by cases hp)).new NN4 24
      simp only [Act.put, sT, sS, sZ]
      obtain ⟨wq57x78, hwq57x78⟩ : ∃ W, W = wdq57x2.alloc (.cells NN4 24) := ⟨_, rfl⟩
      rw [← hwq57x78] at Hq57x79 Eq57x80 ⊢
      clear hwq57x78
      refine rdy [2, 7] (rcl (some 40) 24 #[.tmp 38, .tmp 39] #[24, 24] #[.agg NN5, .agg NN13] en24 _ (HC16.out _) ?_ (ral 13 24 HZ24 (Hq57x79.alloc _) ?_ ReadyF.nil))
      · rintro v wq57x81 ⟨he, hb⟩
        cases he
        have Hq57x82 := Hq57x79.below hb
        have Eq57x83 := Eq57x80.below hb
        clear hb
        refine ⟨Hq57x82, ?_⟩
        simp only [Act.put, sT, sS, sZ]
        exact F_to (by kernel_rfl) (by kernel_rfl) (Jq57_4 _ _ ⟨wdq57x2.heap.size, rfl, Hq57x82, Eq57x83, by omega, by omega, by omega, by omega, by omega, by omega, by omega, by omega, by omega⟩)
      · have l0wq57x84 := Hq57x79.lt (g24) NN5 24 (by simp)
        have l1wq57x84 := Hq57x79.lt (g17) NN2 24 (by simp)
        have l2wq57x84 := Hq57x79.lt (g12) ZR1 71 (by simp)
        have l3wq57x84 := Hq57x79.lt (g6) PB 71 (by simp)
        have l4wq57x84 := Hq57x79.lt (w.heap.size) PA 71 (by simp)
        have l5wq57x84 := Hq57x79.lt (gq27s0) NN7 24 (by simp)
        have l6wq57x84 := Hq57x79.lt (gq27s1) NN9 24 (by simp)
        have l7wq57x84 := Hq57x79.lt (gq45s0) NN13 24 (by simp)
        have m0wq57x84 := Eq57x80.lt (wdq57x2.heap.size) NN4 24 (by simp)
        have bwq57x84 := Hq57x79.1.size
        have Hq57x85 := Hq57x79.alloc (.cells NN4 24)
        have Eq57x86 := Eq57x80.new NN4 24
        simp only [Act.put, sT, sS, sZ]
        obtain ⟨wq57x84, hwq57x84⟩ : ∃ W, W = wq57x78.alloc (.cells NN4 24) := ⟨_, rfl⟩
        rw [← hwq57x84] at Hq57x85 Eq57x86 ⊢
        clear hwq57x84
        exact F_to (by kernel_rfl) (by kernel_rfl) (Jq57_6 _ _ ⟨wdq57x2.heap.size, wq57x78.heap.size, rfl, Hq57x85, Eq57x86.sub (fun p hp => by simp at hp; rcases hp with rfl | rfl <;> simp), by omega, by omega, by omega, by omega, by omega, by omega, by omega, by omega, by omega, by omega, by omega, by omega, by omega, by omega, by omega, by omega, by omega, by omega, by omega⟩)
    · have l0wq57x87 := HDq57x1.lt (g24) NN5 24 (by simp)
      have l1wq57x87 := HDq57x1.lt (g17) NN2 24 (by simp)
      have l2wq57x87 := HDq57x1.lt (g12) ZR1 71 (by simp)
      have l3wq57x87 := HDq57x1.lt (g6) PB 71 (by simp)
      have l4wq57x87 := HDq57x1.lt (w.heap.size) PA 71 (by simp)
      have l5wq57x87 := HDq57x1.lt (gq27s0) NN7 24 (by simp)
      have l6wq57x87 := HDq57x1.lt (gq27s1) NN9 24 (by simp)
      have l7wq57x87 := HDq57x1.lt (gq45s0) NN13 24 (by simp)
      have bwq57x87 := HDq57x1.1.size
      have Hq57x88 := HDq57x1.alloc (.cells NN4 24)
      have Eq57x89 := (HDq57x1.sub (m := []) (fun p hp => by cases hp)).new NN4 24
      simp only [Act.put, sT, sS, sZ]
      obtain ⟨wq57x87, hwq57x87⟩ : ∃ W, W = wdq57x2.alloc (.cells NN4 24) := ⟨_, rfl⟩
      rw [← hwq57x87] at Hq57x88 Eq57x89 ⊢
      clear hwq57x87
      refine rdy [2, 6] (rcl (some 40) 24 #[.tmp 38, .tmp 39] #[24, 24] #[.agg NN5, .agg NN13] en24 _ (HC16.out _) ?_ (ral 12 24 HZ24 (Hq57x88.alloc _) ?_ ReadyF.nil))
      · rintro v wq57x90 ⟨he, hb⟩
        cases he
        have Hq57x91 := Hq57x88.below hb
        have Eq57x92 := Eq57x89.below hb
        clear hb
        refine ⟨Hq57x91, ?_⟩
        simp only [Act.put, sT, sS, sZ]
        exact F_to (by kernel_rfl) (by kernel_rfl) (Jq57_5 _ _ ⟨wdq57x2.heap.size, rfl, Hq57x91, Eq57x92, by omega, by omega, by omega, by omega, by omega, by omega, by omega, by omega, by omega⟩)
      · have l0wq57x93 := Hq57x88.lt (g24) NN5 24 (by simp)
        have l1wq57x93 := Hq57x88.lt (g17) NN2 24 (by simp)
        have l2wq57x93 := Hq57x88.lt (g12) ZR1 71 (by simp)
        have l3wq57x93 := Hq57x88.lt (g6) PB 71 (by simp)
        have l4wq57x93 := Hq57x88.lt (w.heap.size) PA 71 (by simp)
        have l5wq57x93 := Hq57x88.lt (gq27s0) NN7 24 (by simp)
        have l6wq57x93 := Hq57x88.lt (gq27s1) NN9 24 (by simp)
        have l7wq57x93 := Hq57x88.lt (gq45s0) NN13 24 (by simp)
        have m0wq57x93 := Eq57x89.lt (wdq57x2.heap.size) NN4 24 (by simp)
        have bwq57x93 := Hq57x88.1.size
        have Hq57x94 := Hq57x88.alloc (.cells NN4 24)
        have Eq57x95 := Eq57x89.new NN4 24
        simp only [Act.put, sT, sS, sZ]
        obtain ⟨wq57x93, hwq57x93⟩ : ∃ W, W = wq57x87.alloc (.cells NN4 24) := ⟨_, rfl⟩
        rw [← hwq57x93] at Hq57x94 Eq57x95 ⊢
        clear hwq57x93
        exact F_to (by kernel_rfl) (by kernel_rfl) (Jq57_6 _ _ ⟨wq57x87.heap.size, wdq57x2.heap.size, rfl, Hq57x94, Eq57x95, by omega, by omega, by omega, by omega, by omega, by omega, by omega, by omega, by omega, by omega, by omega, by omega, by omega, by omega, by omega, by omega, by omega, by omega, by omega⟩)
  rintro a' w58 ⟨gq57s0, gq57s1, rfl, hk, e60, e61, e62, e63, e64, e65, e66, e67, e68, e69, e70, e71, e72, e73, e74, e75, e76, e77, e78⟩
  have HS59 := Lib.hid hk
  clear hk HS47
  go_upto_region 6 with fail
  refine wp_cut (fun a' W' => ∃ gq79s0, a' = { tmps := #[.agg PA, .agg PB, .agg D0, .pointer (some ⟨w.heap.size, 0, none⟩), .pointer (some ⟨g6, 0, none⟩), .pointer (some ⟨g9, 0, none⟩), .pointer (some ⟨g12, 0, none⟩), .pointer (some ⟨g17, 0, none⟩), .pointer (some ⟨g24, 0, none⟩), .pointer (some ⟨gq27s0, 0, none⟩), .pointer (some ⟨gq27s1, 0, none⟩), .pointer (some ⟨gq45s0, 0, none⟩), .pointer (some ⟨gq57s0, 0, none⟩), .pointer (some ⟨gq57s1, 0, none⟩), .pointer (some ⟨gq79s0, 0, none⟩), .pointer (some ⟨w.heap.size, 8, none⟩), .agg Z10, .pointer (some ⟨g6, 8, none⟩), .agg Z20, .agg NN2, .agg NN2, .agg NN2, .agg NN5, .pointer (some ⟨w.heap.size, 0, none⟩), .agg X10, .pointer (some ⟨g6, 0, none⟩), .agg X20, .agg NN7, .pointer (some ⟨w.heap.size, 4, none⟩), .agg Y10, .pointer (some ⟨g6, 4, none⟩), .agg Y20, .agg NN9, .agg D0, .agg NN7, .agg NN9, .agg NN11, .agg NN13, .agg NN5, .agg NN13, .agg NN15, .agg NN5, .agg NN13, .agg NN17, .pointer (some ⟨w.heap.size, 0, none⟩), .agg X10, .pointer (some ⟨w.heap.size, 4, none⟩), .agg Y10, .agg NN19, .pointer (some ⟨g6, 0, none⟩), .agg X20, .pointer (some ⟨g6, 4, none⟩), .agg Y20, .agg NN21, .agg NN23, .agg NN7, .agg NN25, .agg NN9, .agg NN27, undef, undef, undef, undef, undef, undef, undef, undef, undef, undef, undef, undef, undef, undef, undef, undef], defers := [] } ∧ Kt w [(g17, NN2, 24), (g12, ZR1, 71), (gq27s0, NN7, 24), (gq27s1, NN9, 24), (gq57s0, NN15, 24), (gq57s1, NN17, 24), (gq79s0, NN27, 24)] W' ∧ w.heap.size ≤ gq79s0 ∧ gq79s0 ≠ g17 ∧ gq79s0 ≠ g12 ∧ gq79s0 ≠ g6 ∧ gq79s0 ≠ w.heap.size ∧ gq79s0 ≠ gq27s0 ∧ gq79s0 ≠ gq27s1 ∧ gq79s0 ≠ gq57s0 ∧ gq79s0 ≠ gq57s1) ?_ ?_
  · refine wp_region_any (by kernel_rfl) ?_
    change wpAny _ _ _ _ _ _ _ (World.drew _)
    have HDq79x1 := HS59.out.drew
    clear HS59
    generalize w58.drew = wdq79x2 at *
    refine any_of_F (S := Kt w [(g17, NN2, 24), (g12, ZR1, 71), (g6, PB, 71), (w.heap.size, PA, 71), (gq27s0, NN7, 24), (gq27s1, NN9, 24), (gq57s0, NN15, 24), (gq57s1, NN17, 24)]) (f := 1000) _ _ _ _ ?_
    refine F_have 1 #[true, true, true, true, true, true, true, true, true, true, true, true, true, true, true, true, false] (fun a W => ∃ gjq79_0_0, a = { tmps := #[.agg PA, .agg PB, .agg D0, .pointer (some ⟨w.heap.size, 0, none⟩), .pointer (some ⟨g6, 0, none⟩), .pointer (some ⟨g9, 0, none⟩), .pointer (some ⟨g12, 0, none⟩), .pointer (some ⟨g17, 0, none⟩), .pointer (some ⟨g24, 0, none⟩), .pointer (some ⟨gq27s0, 0, none⟩), .pointer (some ⟨gq27s1, 0, none⟩), .pointer (some ⟨gq45s0, 0, none⟩), .pointer (some ⟨gq57s0, 0, none⟩), .pointer (some ⟨gq57s1, 0, none⟩), .pointer (some ⟨gjq79_0_0, 0, none⟩), .pointer (some ⟨w.heap.size, 8, none⟩), .agg Z10, .pointer (some ⟨g6, 8, none⟩), .agg Z20, .agg NN2, .agg NN2, .agg NN2, .agg NN5, .pointer (some ⟨w.heap.size, 0, none⟩), .agg X10, .pointer (some ⟨g6, 0, none⟩), .agg X20, .agg NN7, .pointer (some ⟨w.heap.size, 4, none⟩), .agg Y10, .pointer (some ⟨g6, 4, none⟩), .agg Y20, .agg NN9, .agg D0, .agg NN7, .agg NN9, .agg NN11, .agg NN13, .agg NN5, .agg NN13, .agg NN15, .agg NN5, .agg NN13, .agg NN17, .pointer (some ⟨w.heap.size, 0, none⟩), .agg X10, .pointer (some ⟨w.heap.size, 4, none⟩), .agg Y10, .agg NN19, .pointer (some ⟨g6, 0, none⟩), .agg X20, .pointer (some ⟨g6, 4, none⟩), .agg Y20, .agg NN21, .agg NN23, .agg NN7, .agg NN25, .agg NN9, .agg NN27, undef, undef, undef, undef, undef, undef, undef, undef, undef, undef, undef, undef, undef, undef, undef, undef], defers := [] } ∧ Kt w [(g17, NN2, 24), (g12, ZR1, 71), (g6, PB, 71), (w.heap.size, PA, 71), (gq27s0, NN7, 24), (gq27s1, NN9, 24), (gq57s0, NN15, 24), (gq57s1, NN17, 24)] W ∧ Kt w [(gjq79_0_0, NN4, 24)] W ∧ w.heap.size ≤ gjq79_0_0 ∧ gjq79_0_0 ≠ g17 ∧ gjq79_0_0 ≠ g12 ∧ gjq79_0_0 ≠ g6 ∧ gjq79_0_0 ≠ w.heap.size ∧ gjq79_0_0 ≠ gq27s0 ∧ gjq79_0_0 ≠ gq27s1 ∧ gjq79_0_0 ≠ gq57s0 ∧ gjq79_0_0 ≠ gq57s1) ?_ ?_
    · rintro a wq79x11 ⟨gjq79_0_0, rfl, Hq79x12, Eq79x13, fJq79_0_0, fJq79_0_1, fJq79_0_2, fJq79_0_3, fJq79_0_4, fJq79_0_5, fJq79_0_6, fJq79_0_7, fJq79_0_8⟩
      refine rdy [16] (ReadyF.op0 (.store 24 (.tmp 14) (.tmp 58)) rfl (fun o ho => exec_store24 wq79x11 (.tmp 14) (.tmp 58) ho (gjq79_0_0) rfl NN27 INN27 rfl NN4 24 (Eq79x13.get (gjq79_0_0) NN4 24 (by simp)) SZNN4) (Hq79x12.set (gjq79_0_0) NN27 NN4 24 (Eq79x13.get (gjq79_0_0) NN4 24 (by simp)) (by omega) (fun p hp => by simp at hp; rcases hp with rfl | rfl | rfl | rfl | rfl | rfl | rfl | rfl <;> exact .inr ⟨by simp, by simp only; omega⟩)) ?_ ReadyF.nil)
      have Hq79x15 := Hq79x12.set (gjq79_0_0) NN27 NN4 24 (Eq79x13.get (gjq79_0_0) NN4 24 (by simp)) (by omega) (m := [(g17, NN2, 24), (g12, ZR1, 71), (g6, PB, 71), (w.heap.size, PA, 71), (gq27s0, NN7, 24), (gq27s1, NN9, 24), (gq57s0, NN15, 24), (gq57s1, NN17, 24)]) (fun p hp => by simp at hp; rcases hp with rfl | rfl | rfl | rfl | rfl | rfl | rfl | rfl <;> exact .inr ⟨by simp, by simp only; omega⟩)
      have Eq79x16 := Eq79x13.set (gjq79_0_0) NN27 NN4 24 (Eq79x13.get (gjq79_0_0) NN4 24 (by simp)) (by omega) (m := [(gjq79_0_0, NN27, 24)]) (fun p hp => by simp at hp; subst hp; first | exact .inl rfl | exact .inr ⟨by simp, by simp only; omega⟩)
      generalize wq79x11.setRow (gjq79_0_0) NN27 = wq79x14 at *
      refine AnyF.done (by kernel_rfl) ?_ _
      refine nrm_intro ⟨gjq79_0_0, rfl, (Hq79x15.app Eq79x16).sub (fun p hp => by simp at hp; rcases hp with rfl | rfl | rfl | rfl | rfl | rfl | rfl <;> simp), by omega, by omega, by omega, by omega, by omega, by omega, by omega, by omega, by omega⟩
    intro Jq79_0
    refine F_have 2 #[true, true, true, true, true, true, true, true, true, true, true, true, true, true, false, true, false] (fun a W => ∃ gjq79_1_0, a = { tmps := #[.agg PA, .agg PB, .agg D0, .pointer (some ⟨w.heap.size, 0, none⟩), .pointer (some ⟨g6, 0, none⟩), .pointer (some ⟨g9, 0, none⟩), .pointer (some ⟨g12, 0, none⟩), .pointer (some ⟨g17, 0, none⟩), .pointer (some ⟨g24, 0, none⟩), .pointer (some ⟨gq27s0, 0, none⟩), .pointer (some ⟨gq27s1, 0, none⟩), .pointer (some ⟨gq45s0, 0, none⟩), .pointer (some ⟨gq57s0, 0, none⟩), .pointer (some ⟨gq57s1, 0, none⟩), .pointer (some ⟨gjq79_1_0, 0, none⟩), .pointer (some ⟨w.heap.size, 8, none⟩), .agg Z10, .pointer (some ⟨g6, 8, none⟩), .agg Z20, .agg NN2, .agg NN2, .agg NN2, .agg NN5, .pointer (some ⟨w.heap.size, 0, none⟩), .agg X10, .pointer (some ⟨g6, 0, none⟩), .agg X20, .agg NN7, .pointer (some ⟨w.heap.size, 4, none⟩), .agg Y10, .pointer (some ⟨g6, 4, none⟩), .agg Y20, .agg NN9, .agg D0, .agg NN7, .agg NN9, .agg NN11, .agg NN13, .agg NN5, .agg NN13, .agg NN15, .agg NN5, .agg NN13, .agg NN17, .pointer (some ⟨w.heap.size, 0, none⟩), .agg X10, .pointer (some ⟨w.heap.size, 4, none⟩), .agg Y10, .agg NN19, .pointer (some ⟨g6, 0, none⟩), .agg X20, .pointer (some ⟨g6, 4, none⟩), .agg Y20, .agg NN21, .agg NN23, .agg NN7, .agg NN25, .agg NN9, undef, undef, undef, undef, undef, undef, undef, undef, undef, undef, undef, undef, undef, undef, undef, undef, undef], defers := [] } ∧ Kt w [(g17, NN2, 24), (g12, ZR1, 71), (g6, PB, 71), (w.heap.size, PA, 71), (gq27s0, NN7, 24), (gq27s1, NN9, 24), (gq57s0, NN15, 24), (gq57s1, NN17, 24)] W ∧ Kt w [(gjq79_1_0, NN4, 24)] W ∧ w.heap.size ≤ gjq79_1_0 ∧ gjq79_1_0 ≠ g17 ∧ gjq79_1_0 ≠ g12 ∧ gjq79_1_0 ≠ g6 ∧ gjq79_1_0 ≠ w.heap.size ∧ gjq79_1_0 ≠ gq27s0 ∧ gjq79_1_0 ≠ gq27s1 ∧ gjq79_1_0 ≠ gq57s0 ∧ gjq79_1_0 ≠ gq57s1) ?_ ?_
    · rintro a wq79x17 ⟨gjq79_1_0, rfl, Hq79x18, Eq79x19, fJq79_1_0, fJq79_1_1, fJq79_1_2, fJq79_1_3, fJq79_1_4, fJq79_1_5, fJq79_1_6, fJq79_1_7, fJq79_1_8⟩
      refine rdy [14] (rcl (some 58) 24 #[.tmp 56, .tmp 57] #[24, 24] #[.agg NN25, .agg NN9] en24 _ (HC28.out _) ?_ ReadyF.nil)
      rintro v wq79x20 ⟨he, hb⟩
      cases he
      have Hq79x21 := Hq79x18.below hb
      have Eq79x22 := Eq79x19.below hb
      clear hb
      refine ⟨Hq79x21, ?_⟩
      simp only [Act.put, sT, sS, sZ]
      exact F_to (by kernel_rfl) (by kernel_rfl) (Jq79_0 _ _ ⟨gjq79_1_0, rfl, Hq79x21, Eq79x22, by omega, by omega, by omega, by omega, by omega, by omega, by omega, by omega, by omega⟩)
    intro Jq79_1
    refine F_have 3 #[true, true, true, true, true, true, true, true, true, true, true, true, false, true, false, true, false] (fun a W => ∃ gjq79_2_0, a = { tmps := #[.agg PA, .agg PB, .agg D0, .pointer (some ⟨w.heap.size, 0, none⟩), .pointer (some ⟨g6, 0, none⟩), .pointer (some ⟨g9, 0, none⟩), .pointer (some ⟨g12, 0, none⟩), .pointer (some ⟨g17, 0, none⟩), .pointer (some ⟨g24, 0, none⟩), .pointer (some ⟨gq27s0, 0, none⟩), .pointer (some ⟨gq27s1, 0, none⟩), .pointer (some ⟨gq45s0, 0, none⟩), .pointer (some ⟨gq57s0, 0, none⟩), .pointer (some ⟨gq57s1, 0, none⟩), .pointer (some ⟨gjq79_2_0, 0, none⟩), .pointer (some ⟨w.heap.size, 8, none⟩), .agg Z10, .pointer (some ⟨g6, 8, none⟩), .agg Z20, .agg NN2, .agg NN2, .agg NN2, .agg NN5, .pointer (some ⟨w.heap.size, 0, none⟩), .agg X10, .pointer (some ⟨g6, 0, none⟩), .agg X20, .agg NN7, .pointer (some ⟨w.heap.size, 4, none⟩), .agg Y10, .pointer (some ⟨g6, 4, none⟩), .agg Y20, .agg NN9, .agg D0, .agg NN7, .agg NN9, .agg NN11, .agg NN13, .agg NN5, .agg NN13, .agg NN15, .agg NN5, .agg NN13, .agg NN17, .pointer (some ⟨w.heap.size, 0, none⟩), .agg X10, .pointer (some ⟨w.heap.size, 4, none⟩), .agg Y10, .agg NN19, .pointer (some ⟨g6, 0, none⟩), .agg X20, .pointer (some ⟨g6, 4, none⟩), .agg Y20, .agg NN21, .agg NN23, .agg NN7, undef, .agg NN9, undef, undef, undef, undef, undef, undef, undef, undef, undef, undef, undef, undef, undef, undef, undef, undef, undef], defers := [] } ∧ Kt w [(g17, NN2, 24), (g12, ZR1, 71), (g6, PB, 71), (w.heap.size, PA, 71), (gq27s0, NN7, 24), (gq27s1, NN9, 24), (gq57s0, NN15, 24), (gq57s1, NN17, 24)] W ∧ Kt w [(gjq79_2_0, NN4, 24)] W ∧ w.heap.size ≤ gjq79_2_0 ∧ gjq79_2_0 ≠ g17 ∧ gjq79_2_0 ≠ g12 ∧ gjq79_2_0 ≠ g6 ∧ gjq79_2_0 ≠ w.heap.size ∧ gjq79_2_0 ≠ gq27s0 ∧ gjq79_2_0 ≠ gq27s1 ∧ gjq79_2_0 ≠ gq57s0 ∧ gjq79_2_0 ≠ gq57s1) ?_ ?_
    · rintro a wq79x23 ⟨gjq79_2_0, rfl, Hq79x24, Eq79x25, fJq79_2_0, fJq79_2_1, fJq79_2_2, fJq79_2_3, fJq79_2_4, fJq79_2_5, fJq79_2_6, fJq79_2_7, fJq79_2_8⟩
      refine rdy [12] (rcl (some 56) 24 #[.tmp 54, .tmp 55] #[24, 24] #[.agg NN23, .agg NN7] en24 _ (HC26.out _) ?_ ReadyF.nil)
      rintro v wq79x26 ⟨he, hb⟩
      cases he
      have Hq79x27 := Hq79x24.below hb
      have Eq79x28 := Eq79x25.below hb
      clear hb
      refine ⟨Hq79x27, ?_⟩
      simp only [Act.put, sT, sS, sZ]
      exact F_to (by kernel_rfl) (by kernel_rfl) (Jq79_1 _ _ ⟨gjq79_2_0, rfl, Hq79x27, Eq79x28, by omega, by omega, by omega, by omega, by omega, by omega, by omega, by omega, by omega⟩)
    intro Jq79_2
    refine F_have 4 #[true, true, true, true, true, true, true, true, true, true, false, true, false, true, false, true, false] (fun a W => ∃ gjq79_3_0, a = { tmps := #[.agg PA, .agg PB, .agg D0, .pointer (some ⟨w.heap.size, 0, none⟩), .pointer (some ⟨g6, 0, none⟩), .pointer (some ⟨g9, 0, none⟩), .pointer (some ⟨g12, 0, none⟩), .pointer (some ⟨g17, 0, none⟩), .pointer (some ⟨g24, 0, none⟩), .pointer (some ⟨gq27s0, 0, none⟩), .pointer (some ⟨gq27s1, 0, none⟩), .pointer (some ⟨gq45s0, 0, none⟩), .pointer (some ⟨gq57s0, 0, none⟩), .pointer (some ⟨gq57s1, 0, none⟩), .pointer (some ⟨gjq79_3_0, 0, none⟩), .pointer (some ⟨w.heap.size, 8, none⟩), .agg Z10, .pointer (some ⟨g6, 8, none⟩), .agg Z20, .agg NN2, .agg NN2, .agg NN2, .agg NN5, .pointer (some ⟨w.heap.size, 0, none⟩), .agg X10, .pointer (some ⟨g6, 0, none⟩), .agg X20, .agg NN7, .pointer (some ⟨w.heap.size, 4, none⟩), .agg Y10, .pointer (some ⟨g6, 4, none⟩), .agg Y20, .agg NN9, .agg D0, .agg NN7, .agg NN9, .agg NN11, .agg NN13, .agg NN5, .agg NN13, .agg NN15, .agg NN5, .agg NN13, .agg NN17, .pointer (some ⟨w.heap.size, 0, none⟩), .agg X10, .pointer (some ⟨w.heap.size, 4, none⟩), .agg Y10, .agg NN19, .pointer (some ⟨g6, 0, none⟩), .agg X20, .pointer (some ⟨g6, 4, none⟩), .agg Y20, .agg NN21, undef, .agg NN7, undef, .agg NN9, undef, undef, undef, undef, undef, undef, undef, undef, undef, undef, undef, undef, undef, undef, undef, undef, undef], defers := [] } ∧ Kt w [(g17, NN2, 24), (g12, ZR1, 71), (g6, PB, 71), (w.heap.size, PA, 71), (gq27s0, NN7, 24), (gq27s1, NN9, 24), (gq57s0, NN15, 24), (gq57s1, NN17, 24)] W ∧ Kt w [(gjq79_3_0, NN4, 24)] W ∧ w.heap.size ≤ gjq79_3_0 ∧ gjq79_3_0 ≠ g17 ∧ gjq79_3_0 ≠ g12 ∧ gjq79_3_0 ≠ g6 ∧ gjq79_3_0 ≠ w.heap.size ∧ gjq79_3_0 ≠ gq27s0 ∧ gjq79_3_0 ≠ gq27s1 ∧ gjq79_3_0 ≠ gq57s0 ∧ gjq79_3_0 ≠ gq57s1) ?_ ?_
    · rintro a wq79x29 ⟨gjq79_3_0, rfl, Hq79x30, Eq79x31, fJq79_3_0, fJq79_3_1, fJq79_3_2, fJq79_3_3, fJq79_3_4, fJq79_3_5, fJq79_3_6, fJq79_3_7, fJq79_3_8⟩
      refine rdy [10] (rcl (some 54) 34 #[.tmp 48, .tmp 53] #[24, 24] #[.agg NN19, .agg NN21] en34 _ (HC24.out _) ?_ ReadyF.nil)
      rintro v wq79x32 ⟨he, hb⟩
      cases he
      have Hq79x33 := Hq79x30.below hb
      have Eq79x34 := Eq79x31.below hb
      clear hb
      refine ⟨Hq79x33, ?_⟩
      simp only [Act.put, sT, sS, sZ]
      exact F_to (by kernel_rfl) (by kernel_rfl) (Jq79_2 _ _ ⟨gjq79_3_0, rfl, Hq79x33, Eq79x34, by omega, by omega, by omega, by omega, by omega, by omega, by omega, by omega, by omega⟩)
    intro Jq79_3
    refine F_have 5 #[true, true, true, true, true, true, true, true, true, false, false, true, false, true, false, true, false] (fun a W => ∃ gjq79_4_0, a = { tmps := #[.agg PA, .agg PB, .agg D0, .pointer (some ⟨w.heap.size, 0, none⟩), .pointer (some ⟨g6, 0, none⟩), .pointer (some ⟨g9, 0, none⟩), .pointer (some ⟨g12, 0, none⟩), .pointer (some ⟨g17, 0, none⟩), .pointer (some ⟨g24, 0, none⟩), .pointer (some ⟨gq27s0, 0, none⟩), .pointer (some ⟨gq27s1, 0, none⟩), .pointer (some ⟨gq45s0, 0, none⟩), .pointer (some ⟨gq57s0, 0, none⟩), .pointer (some ⟨gq57s1, 0, none⟩), .pointer (some ⟨gjq79_4_0, 0, none⟩), .pointer (some ⟨w.heap.size, 8, none⟩), .agg Z10, .pointer (some ⟨g6, 8, none⟩), .agg Z20, .agg NN2, .agg NN2, .agg NN2, .agg NN5, .pointer (some ⟨w.heap.size, 0, none⟩), .agg X10, .pointer (some ⟨g6, 0, none⟩), .agg X20, .agg NN7, .pointer (some ⟨w.heap.size, 4, none⟩), .agg Y10, .pointer (some ⟨g6, 4, none⟩), .agg Y20, .agg NN9, .agg D0, .agg NN7, .agg NN9, .agg NN11, .agg NN13, .agg NN5, .agg NN13, .agg NN15, .agg NN5, .agg NN13, .agg NN17, .pointer (some ⟨w.heap.size, 0, none⟩), .agg X10, .pointer (some ⟨w.heap.size, 4, none⟩), .agg Y10, .agg NN19, .pointer (some ⟨g6, 0, none⟩), .agg X20, .pointer (some ⟨g6, 4, none⟩), .agg Y20, undef, undef, .agg NN7, undef, .agg NN9, undef, undef, undef, undef, undef, undef, undef, undef, undef, undef, undef, undef, undef, undef, undef, undef, undef], defers := [] } ∧ Kt w [(g17, NN2, 24), (g12, ZR1, 71), (g6, PB, 71), (w.heap.size, PA, 71), (gq27s0, NN7, 24), (gq27s1, NN9, 24), (gq57s0, NN15, 24), (gq57s1, NN17, 24)] W ∧ Kt w [(gjq79_4_0, NN4, 24)] W ∧ w.heap.size ≤ gjq79_4_0 ∧ gjq79_4_0 ≠ g17 ∧ gjq79_4_0 ≠ g12 ∧ gjq79_4_0 ≠ g6 ∧ gjq79_4_0 ≠ w.heap.size ∧ gjq79_4_0 ≠ gq27s0 ∧ gjq79_4_0 ≠ gq27s1 ∧ gjq79_4_0 ≠ gq57s0 ∧ gjq79_4_0 ≠ gq57s1) ?_ ?_
    · rintro a wq79x35 ⟨gjq79_4_0, rfl, Hq79x36, Eq79x37, fJq79_4_0, fJq79_4_1, fJq79_4_2, fJq79_4_3, fJq79_4_4, fJq79_4_5, fJq79_4_6, fJq79_4_7, fJq79_4_8⟩
      refine rdy [9] (rcl (some 53) 37 #[.tmp 50, .tmp 52] #[24, 24] #[.agg X20, .agg Y20] en37 _ (HC22.out _) ?_ ReadyF.nil)
      rintro v wq79x38 ⟨he, hb⟩
      cases he
      have Hq79x39 := Hq79x36.below hb
      have Eq79x40 := Eq79x37.below hb
      clear hb
      refine ⟨Hq79x39, ?_⟩
      simp only [Act.put, sT, sS, sZ]
      exact F_to (by kernel_rfl) (by kernel_rfl) (Jq79_3 _ _ ⟨gjq79_4_0, rfl, Hq79x39, Eq79x40, by omega, by omega, by omega, by omega, by omega, by omega, by omega, by omega, by omega⟩)
    intro Jq79_4
    refine tkG 0 (some 44) (.fieldAddr 71 (.tmp 3) 0) none (.pointer (some ⟨w.heap.size, 0, none⟩)) (fun o ho w2 hw => exec_field 71 (.tmp 3) 0 ho _ _ rfl w2 (fa71_0 (w.heap.size) w2)) HDq79x1 ?_
    simp only [Act.put, sT, sS, sZ]
    refine tkG 1 (some 45) (.load 24 (.tmp 44)) none (.agg X10) (fun o ho w2 hw => exec_load_of _ 24 (.tmp 44) ho ⟨w.heap.size, 0, none⟩ rfl _ (load_part (hw.get (w.heap.size) PA 71 (by simp)) IX10 0 SPA_0)) HDq79x1 ?_
    simp only [Act.put, sT, sS, sZ]
    refine tkG 2 (some 46) (.fieldAddr 71 (.tmp 3) 1) none (.pointer (some ⟨w.heap.size, 4, none⟩)) (fun o ho w2 hw => exec_field 71 (.tmp 3) 1 ho _ _ rfl w2 (fa71_1 (w.heap.size) w2)) HDq79x1 ?_
    simp only [Act.put, sT, sS, sZ]
    refine tkG 3 (some 47) (.load 24 (.tmp 46)) none (.agg Y10) (fun o ho w2 hw => exec_load_of _ 24 (.tmp 46) ho ⟨w.heap.size, 4, none⟩ rfl _ (load_part (hw.get (w.heap.size) PA 71 (by simp)) IY10 4 SPA_4)) HDq79x1 ?_
    simp only [Act.put, sT, sS, sZ]
    refine tkG 5 (some 49) (.fieldAddr 71 (.tmp 4) 0) none (.pointer (some ⟨g6, 0, none⟩)) (fun o ho w2 hw => exec_field 71 (.tmp 4) 0 ho _ _ rfl w2 (fa71_0 (g6) w2)) HDq79x1 ?_
    simp only [Act.put, sT, sS, sZ]
    refine tkG 6 (some 50) (.load 24 (.tmp 49)) none (.agg X20) (fun o ho w2 hw => exec_load_of _ 24 (.tmp 49) ho ⟨g6, 0, none⟩ rfl _ (load_part (hw.get (g6) PB 71 (by simp)) IX20 0 SPB_0)) HDq79x1 ?_
    simp only [Act.put, sT, sS, sZ]
    refine tkG 7 (some 51) (.fieldAddr 71 (.tmp 4) 1) none (.pointer (some ⟨g6, 4, none⟩)) (fun o ho w2 hw => exec_field 71 (.tmp 4) 1 ho _ _ rfl w2 (fa71_1 (g6) w2)) HDq79x1 ?_
    simp only [Act.put, sT, sS, sZ]
    refine tkG 8 (some 52) (.load 24 (.tmp 51)) none (.agg Y20) (fun o ho w2 hw => exec_load_of _ 24 (.tmp 51) ho ⟨g6, 4, none⟩ rfl _ (load_part (hw.get (g6) PB 71 (by simp)) IY20 4 SPB_4)) HDq79x1 ?_
    simp only [Act.put, sT, sS, sZ]
    refine tkG 11 (some 55) (.load 24 (.tmp 9)) none (.agg NN7) (fun o ho w2 hw => exec_load_of _ 24 (.tmp 9) ho ⟨gq27s0, 0, none⟩ rfl _ (loadA24 INN7 (hw.get (gq27s0) NN7 24 (by simp)))) HDq79x1 ?_
    simp only [Act.put, sT, sS, sZ]
    refine tkG 13 (some 57) (.load 24 (.tmp 10)) none (.agg NN9) (fun o ho w2 hw => exec_load_of _ 24 (.tmp 10) ho ⟨gq27s1, 0, none⟩ rfl _ (loadA24 INN9 (hw.get (gq27s1) NN9 24 (by simp)))) HDq79x1 ?_
    simp only [Act.put, sT, sS, sZ]
    refine rdy [4, 15] (rcl (some 48) 37 #[.tmp 45, .tmp 47] #[24, 24] #[.agg X10, .agg Y10] en37 _ (HC20.out _) ?_ (ral 14 24 HZ24 (HDq79x1.alloc _) ?_ ReadyF.nil))
    · rintro v wq79x41 ⟨he, hb⟩
      cases he
      have Hq79x42 := HDq79x1.below hb
      clear hb
      refine ⟨Hq79x42, ?_⟩
      simp only [Act.put, sT, sS, sZ]
      refine rdy [9, 15] (rcl (some 53) 37 #[.tmp 50, .tmp 52] #[24, 24] #[.agg X20, .agg Y20] en37 _ (HC22.out _) ?_ (ral 14 24 HZ24 (Hq79x42.alloc _) ?_ ReadyF.nil))
      · rintro v wq79x43 ⟨he, hb⟩
        cases he
        have Hq79x44 := Hq79x42.below hb
        clear hb
        refine ⟨Hq79x44, ?_⟩
        simp only [Act.put, sT, sS, sZ]
        refine rdy [10, 15] (rcl (some 54) 34 #[.tmp 48, .tmp 53] #[24, 24] #[.agg NN19, .agg NN21] en34 _ (HC24.out _) ?_ (ral 14 24 HZ24 (Hq79x44.alloc _) ?_ ReadyF.nil))
        · rintro v wq79x45 ⟨he, hb⟩
          cases he
          have Hq79x46 := Hq79x44.below hb
          clear hb
          refine ⟨Hq79x46, ?_⟩
          simp only [Act.put, sT, sS, sZ]
          refine rdy [12, 15] (rcl (some 56) 24 #[.tmp 54, .tmp 55] #[24, 24] #[.agg NN23, .agg NN7] en24 _ (HC26.out _) ?_ (ral 14 24 HZ24 (Hq79x46.alloc _) ?_ ReadyF.nil))
          · rintro v wq79x47 ⟨he, hb⟩
            cases he
            have Hq79x48 := Hq79x46.below hb
            clear hb
            refine ⟨Hq79x48, ?_⟩
            simp only [Act.put, sT, sS, sZ]
            refine rdy [14, 15] (rcl (some 58) 24 #[.tmp 56, .tmp 57] #[24, 24] #[.agg NN25, .agg NN9] en24 _ (HC28.out _) ?_ (ral 14 24 HZ24 (Hq79x48.alloc _) ?_ ReadyF.nil))
            · rintro v wq79x49 ⟨he, hb⟩
              cases he
              have Hq79x50 := Hq79x48.below hb
              clear hb
              refine ⟨Hq79x50, ?_⟩
              simp only [Act.put, sT, sS, sZ]
              refine rdy [15] (ral 14 24 HZ24 (Hq79x50.alloc _) ?_ ReadyF.nil)
              have l0wq79x51 := Hq79x50.lt (g17) NN2 24 (by simp)
              have l1wq79x51 := Hq79x50.lt (g12) ZR1 71 (by simp)
              have l2wq79x51 := Hq79x50.lt (g6) PB 71 (by simp)
              have l3wq79x51 := Hq79x50.lt (w.heap.size) PA 71 (by simp)
              have l4wq79x51 := Hq79x50.lt (gq27s0) NN7 24 (by simp)
              have l5wq79x51 := Hq79x50.lt (gq27s1) NN9 24 (by simp)
              have l6wq79x51 := Hq79x50.lt (gq57s0) NN15 24 (by simp)
              have l7wq79x51 := Hq79x50.lt (gq57s1) NN17 24 (by simp)
              have bwq79x51 := Hq79x50.1.size
              have Hq79x52 := Hq79x50.alloc (.cells NN4 24)
              have Eq79x53 := (Hq79x50.sub (m := []) (fun p hp => by cases hp)).new NN4 24
              simp only [Act.put, sT, sS, sZ]
              obtain ⟨wq79x51, hwq79x51⟩ : ∃ W, W = wq79x49.alloc (.cells NN4 24) := ⟨_, rfl⟩
              rw [← hwq79x51] at Hq79x52 Eq79x53 ⊢
              clear hwq79x51
              exact F_to (by kernel_rfl) (by kernel_rfl) (Jq79_0 _ _ ⟨wq79x49.heap.size, rfl, Hq79x52, Eq79x53, by omega, by omega, by omega, by omega, by omega, by omega, by omega, by omega, by omega⟩)
            · have l0wq79x54 := Hq79x48.lt (g17) NN2 24 (by simp)
              have l1wq79x54 := Hq79x48.lt (g12) ZR1 71 (by simp)
              have l2wq79x54 := Hq79x48.lt (g6) PB 71 (by simp)
              have l3wq79x54 := Hq79x48.lt (w.heap.size) PA 71 (by simp)
              have l4wq79x54 := Hq79x48.lt (gq27s0) NN7 24 (by simp)
              have l5wq79x54 := Hq79x48.lt (gq27s1) NN9 24 (by simp)
              have l6wq79x54 := Hq79x48.lt (gq57s0) NN15 24 (by simp)
              have l7wq79x54 := Hq79x48.lt (gq57s1) NN17 24 (by simp)
              have bwq79x54 := Hq79x48.1.size
              have Hq79x55 := Hq79x48.alloc (.cells NN4 24)
              have Eq79x56 := (Hq79x48.sub (m := []) (fun p hp => by cases hp)).new NN4 24
              simp only [Act.put, sT, sS, sZ]
              obtain ⟨wq79x54, hwq79x54⟩ : ∃ W, W = wq79x47.alloc (.cells NN4 24) := ⟨_, rfl⟩
              rw [← hwq79x54] at Hq79x55 Eq79x56 ⊢
              clear hwq79x54
              exact F_to (by kernel_rfl) (by kernel_rfl) (Jq79_1 _ _ ⟨wq79x47.heap.size, rfl, Hq79x55, Eq79x56, by omega, by omega, by omega, by omega, by omega, by omega, by omega, by omega, by omega⟩)
          · have l0wq79x57 := Hq79x46.lt (g17) NN2 24 (by simp)
            have l1wq79x57 := Hq79x46.lt (g12) ZR1 71 (by simp)
            have l2wq79x57 := Hq79x46.lt (g6) PB 71 (by simp)
            have l3wq79x57 := Hq79x46.lt (w.heap.size) PA 71 (by simp)
            have l4wq79x57 := Hq79x46.lt (gq27s0) NN7 24 (by simp)
            have l5wq79x57 := Hq79x46.lt (gq27s1) NN9 24 (by simp)
            have l6wq79x57 := Hq79x46.lt (gq57s0) NN15 24 (by simp)
            have l7wq79x57 := Hq79x46.lt (gq57s1) NN17 24 (by simp)
            have bwq79x57 := Hq79x46.1.size
            have Hq79x58 := Hq79x46.alloc (.cells NN4 24)
            have Eq79x59 := (Hq79x46.sub (m := []) (fun p hp => by cases hp)).new NN4 24
            simp only [Act.put, sT, sS, sZ]
            obtain ⟨wq79x57, hwq79x57⟩ : ∃ W, W = wq79x45.alloc (.cells NN4 24) := ⟨_, rfl⟩
            rw [← hwq79x57] at Hq79x58 Eq79x59 ⊢
            clear hwq79x57
            exact F_to (by kernel_rfl) (by kernel_rfl) (Jq79_2 _ _ ⟨wq79x45.heap.size, rfl, Hq79x58, Eq79x59, by omega, by omega, by omega, by omega, by omega, by omega, by omega, by omega, by omega⟩)
        · have l0wq79x60 := Hq79x44.lt (g17) NN2 24 (by simp)
          have l1wq79x60 := Hq79x44.lt (g12) ZR1 71 (by simp)
          have l2wq79x60 := Hq79x44.lt (g6) PB 71 (by simp)
          have l3wq79x60 := Hq79x44.lt (w.heap.size) PA 71 (by simp)
          have l4wq79x60 := Hq79x44.lt (gq27s0) NN7 24 (by simp)
          have l5wq79x60 := Hq79x44.lt (gq27s1) NN9 24 (by simp)
          have l6wq79x60 := Hq79x44.lt (gq57s0) NN15 24 (by simp)
          have l7wq79x60 := Hq79x44.lt (gq57s1) NN17 24 (by simp)
          have bwq79x60 := Hq79x44.1.size
          have Hq79x61 := Hq79x44.alloc (.cells NN4 24)
          have Eq79x62 := (Hq79x44.sub (m := []) (fun p hp => by cases hp)).new NN4 24
          simp only [Act.put, sT, sS, sZ]
          obtain ⟨wq79x60, hwq79x60⟩ : ∃ W, W = wq79x43.alloc (.cells NN4 24) := ⟨_, rfl⟩
          rw [← hwq79x60] at Hq79x61 Eq79x62 ⊢
          clear hwq79x60
          exact F_to (by kernel_rfl) (by kernel_rfl) (Jq79_3 _ _ ⟨wq79x43.heap.size, rfl, Hq79x61, Eq79x62, by omega, by omega, by omega, by omega, by omega, by omega, by omega, by omega, by omega⟩)
      · have l0wq79x63 := Hq79x42.lt (g17) NN2 24 (by simp)
        have l1wq79x63 := Hq79x42.lt (g12) ZR1 71 (by simp)
        have l2wq79x63 := Hq79x42.lt (g6) PB 71 (by simp)
        have l3wq79x63 := Hq79x42.lt (w.heap.size) PA 71 (by simp)
        have l4wq79x63 := Hq79x42.lt (gq27s0) NN7 24 (by simp)
        have l5wq79x63 := Hq79x42.lt (gq27s1) NN9 24 (by simp)
        have l6wq79x63 := Hq79x42.lt (gq57s0) NN15 24 (by simp)
        have l7wq79x63 := Hq79x42.lt (gq57s1) NN17 24 (by simp)
        have bwq79x63 := Hq79x42.1.size
        have Hq79x64 := Hq79x42.alloc (.cells NN4 24)
        have Eq79x65 := (Hq79x42.sub (m := []) (fun p hp => by cases hp)).new NN4 24
        simp only [Act.put, sT, sS, sZ]
        obtain ⟨wq79x63, hwq79x63⟩ : ∃ W, W = wq79x41.alloc (.cells NN4 24) := ⟨_, rfl⟩
        rw [← hwq79x63] at Hq79x64 Eq79x65 ⊢
        clear hwq79x63
        exact F_to (by kernel_rfl) (by kernel_rfl) (Jq79_4 _ _ ⟨wq79x41.heap.size, rfl, Hq79x64, Eq79x65, by omega, by omega, by omega, by omega, by omega, by omega, by omega, by omega, by omega⟩)
    · have l0wq79x66 := HDq79x1.lt (g17) NN2 24 (by simp)
      have l1wq79x66 := HDq79x1.lt (g12) ZR1 71 (by simp)
      have l2wq79x66 := HDq79x1.lt (g6) PB 71 (by simp)
      have l3wq79x66 := HDq79x1.lt (w.heap.size) PA 71 (by simp)
      have l4wq79x66 := HDq79x1.lt (gq27s0) NN7 24 (by simp)
      have l5wq79x66 := HDq79x1.lt (gq27s1) NN9 24 (by simp)
      have l6wq79x66 := HDq79x1.lt (gq57s0) NN15 24 (by simp)
      have l7wq79x66 := HDq79x1.lt (gq57s1) NN17 24 (by simp)
      have bwq79x66 := HDq79x1.1.size
      have Hq79x67 := HDq79x1.alloc (.cells NN4 24)
      have Eq79x68 := (HDq79x1.sub (m := []) (fun p hp => by cases hp)).new NN4 24
      simp only [Act.put, sT, sS, sZ]
      obtain ⟨wq79x66, hwq79x66⟩ : ∃ W, W = wdq79x2.alloc (.cells NN4 24) := ⟨_, rfl⟩
      rw [← hwq79x66] at Hq79x67 Eq79x68 ⊢
      clear hwq79x66
      refine rdy [4] (rcl (some 48) 37 #[.tmp 45, .tmp 47] #[24, 24] #[.agg X10, .agg Y10] en37 _ (HC20.out _) ?_ ReadyF.nil)
      rintro v wq79x69 ⟨he, hb⟩
      cases he
      have Hq79x70 := Hq79x67.below hb
      have Eq79x71 := Eq79x68.below hb
      clear hb
      refine ⟨Hq79x70, ?_⟩
      simp only [Act.put, sT, sS, sZ]
      exact F_to (by kernel_rfl) (by kernel_rfl) (Jq79_4 _ _ ⟨wdq79x2.heap.size, rfl, Hq79x70, Eq79x71, by omega, by omega, by omega, by omega, by omega, by omega, by omega, by omega, by omega⟩)
  rintro a' w80 ⟨gq79s0, rfl, hk, e82, e83, e84, e85, e86, e87, e88, e89, e90⟩
  have HS81 := Lib.hid hk
  clear hk HS59
  go_upto_region 7 with fail
  refine wp_cut (fun a' W' => a' = { tmps := #[.agg PA, .agg PB, .agg D0, .pointer (some ⟨w.heap.size, 0, none⟩), .pointer (some ⟨g6, 0, none⟩), .pointer (some ⟨g9, 0, none⟩), .pointer (some ⟨g12, 0, none⟩), .pointer (some ⟨g17, 0, none⟩), .pointer (some ⟨g24, 0, none⟩), .pointer (some ⟨gq27s0, 0, none⟩), .pointer (some ⟨gq27s1, 0, none⟩), .pointer (some ⟨gq45s0, 0, none⟩), .pointer (some ⟨gq57s0, 0, none⟩), .pointer (some ⟨gq57s1, 0, none⟩), .pointer (some ⟨gq79s0, 0, none⟩), .pointer (some ⟨w.heap.size, 8, none⟩), .agg Z10, .pointer (some ⟨g6, 8, none⟩), .agg Z20, .agg NN2, .agg NN2, .agg NN2, .agg NN5, .pointer (some ⟨w.heap.size, 0, none⟩), .agg X10, .pointer (some ⟨g6, 0, none⟩), .agg X20, .agg NN7, .pointer (some ⟨w.heap.size, 4, none⟩), .agg Y10, .pointer (some ⟨g6, 4, none⟩), .agg Y20, .agg NN9, .agg D0, .agg NN7, .agg NN9, .agg NN11, .agg NN13, .agg NN5, .agg NN13, .agg NN15, .agg NN5, .agg NN13, .agg NN17, .pointer (some ⟨w.heap.size, 0, none⟩), .agg X10, .pointer (some ⟨w.heap.size, 4, none⟩), .agg Y10, .agg NN19, .pointer (some ⟨g6, 0, none⟩), .agg X20, .pointer (some ⟨g6, 4, none⟩), .agg Y20, .agg NN21, .agg NN23, .agg NN7, .agg NN25, .agg NN9, .agg NN27, .agg NN2, .agg NN15, .agg NN29, .agg NN27, .agg NN31, .agg NN2, .agg NN17, .agg NN33, .agg NN7, .agg NN9, .agg NN35, .agg NN37, .agg NN15, .agg NN17, .agg NN39, .agg PP42], defers := [] } ∧ Kt w [(g12, PP42, 71)] W') ?_ ?_
  · refine wp_region_any (by kernel_rfl) ?_
    change wpAny _ _ _ _ _ _ _ (World.drew _)
    have HDq91x1 := HS81.out.drew
    clear HS81
    generalize w80.drew = wdq91x2 at *
    refine any_of_F (S := Kt w [(g17, NN2, 24), (g12, ZR1, 71), (gq27s0, NN7, 24), (gq27s1, NN9, 24), (gq57s0, NN15, 24), (gq57s1, NN17, 24), (gq79s0, NN27, 24)]) (f := 16) _ _ _ _ ?_
    refine tkL 0 (some 59) (.load 24 (.tmp 7)) (.agg NN2) (fun o ho w2 hw => exec_load_of _ 24 (.tmp 7) ho ⟨g17, 0, none⟩ rfl _ (loadA24 INN2 (hw.get (g17) NN2 24 (by simp)))) HDq91x1 ?_
    simp only [Act.put, sT, sS, sZ]
    refine tkL 1 (some 60) (.load 24 (.tmp 12)) (.agg NN15) (fun o ho w2 hw => exec_load_of _ 24 (.tmp 12) ho ⟨gq57s0, 0, none⟩ rfl _ (loadA24 INN15 (hw.get (gq57s0) NN15 24 (by simp)))) HDq91x1 ?_
    simp only [Act.put, sT, sS, sZ]
    refine tkL 3 (some 62) (.load 24 (.tmp 14)) (.agg NN27) (fun o ho w2 hw => exec_load_of _ 24 (.tmp 14) ho ⟨gq79s0, 0, none⟩ rfl _ (loadA24 INN27 (hw.get (gq79s0) NN27 24 (by simp)))) HDq91x1 ?_
    simp only [Act.put, sT, sS, sZ]
    refine tkL 5 (some 64) (.load 24 (.tmp 7)) (.agg NN2) (fun o ho w2 hw => exec_load_of _ 24 (.tmp 7) ho ⟨g17, 0, none⟩ rfl _ (loadA24 INN2 (hw.get (g17) NN2 24 (by simp)))) HDq91x1 ?_
    simp only [Act.put, sT, sS, sZ]
    refine tkL 6 (some 65) (.load 24 (.tmp 13)) (.agg NN17) (fun o ho w2 hw => exec_load_of _ 24 (.tmp 13) ho ⟨gq57s1, 0, none⟩ rfl _ (loadA24 INN17 (hw.get (gq57s1) NN17 24 (by simp)))) HDq91x1 ?_
    simp only [Act.put, sT, sS, sZ]
    refine tkL 8 (some 67) (.load 24 (.tmp 9)) (.agg NN7) (fun o ho w2 hw => exec_load_of _ 24 (.tmp 9) ho ⟨gq27s0, 0, none⟩ rfl _ (loadA24 INN7 (hw.get (gq27s0) NN7 24 (by simp)))) HDq91x1 ?_
    simp only [Act.put, sT, sS, sZ]
    refine tkL 9 (some 68) (.load 24 (.tmp 10)) (.agg NN9) (fun o ho w2 hw => exec_load_of _ 24 (.tmp 10) ho ⟨gq27s1, 0, none⟩ rfl _ (loadA24 INN9 (hw.get (gq27s1) NN9 24 (by simp)))) HDq91x1 ?_
    simp only [Act.put, sT, sS, sZ]
    refine tkL 12 (some 71) (.load 24 (.tmp 12)) (.agg NN15) (fun o ho w2 hw => exec_load_of _ 24 (.tmp 12) ho ⟨gq57s0, 0, none⟩ rfl _ (loadA24 INN15 (hw.get (gq57s0) NN15 24 (by simp)))) HDq91x1 ?_
    simp only [Act.put, sT, sS, sZ]
    refine tkL 13 (some 72) (.load 24 (.tmp 13)) (.agg NN17) (fun o ho w2 hw => exec_load_of _ 24 (.tmp 13) ho ⟨gq57s1, 0, none⟩ rfl _ (loadA24 INN17 (hw.get (gq57s1) NN17 24 (by simp)))) HDq91x1 ?_
    simp only [Act.put, sT, sS, sZ]
    refine rdy [2] (rcl (some 61) 34 #[.tmp 59, .tmp 60] #[24, 24] #[.agg NN2, .agg NN15] en34 _ (HC30.out _) ?_ ReadyF.nil)
    rintro v wq91x11 ⟨he, hb⟩
    cases he
    have Hq91x12 := HDq91x1.below hb
    clear hb
    refine ⟨Hq91x12, ?_⟩
    simp only [Act.put, sT, sS, sZ]
    refine rdy [4] (rcl (some 63) 34 #[.tmp 61, .tmp 62] #[24, 24] #[.agg NN29, .agg NN27] en34 _ (HC32.out _) ?_ ReadyF.nil)
    rintro v wq91x13 ⟨he, hb⟩
    cases he
    have Hq91x14 := Hq91x12.below hb
    clear hb
    refine ⟨Hq91x14, ?_⟩
    simp only [Act.put, sT, sS, sZ]
    refine rdy [7] (rcl (some 66) 34 #[.tmp 64, .tmp 65] #[24, 24] #[.agg NN2, .agg NN17] en34 _ (HC34.out _) ?_ ReadyF.nil)
    rintro v wq91x15 ⟨he, hb⟩
    cases he
    have Hq91x16 := Hq91x14.below hb
    clear hb
    refine ⟨Hq91x16, ?_⟩
    simp only [Act.put, sT, sS, sZ]
    refine rdy [10] (rcl (some 69) 37 #[.tmp 67, .tmp 68] #[24, 24] #[.agg NN7, .agg NN9] en37 _ (HC36.out _) ?_ ReadyF.nil)
    rintro v wq91x17 ⟨he, hb⟩
    cases he
    have Hq91x18 := Hq91x16.below hb
    clear hb
    refine ⟨Hq91x18, ?_⟩
    simp only [Act.put, sT, sS, sZ]
    refine rdy [11] (rcl (some 70) 34 #[.tmp 66, .tmp 69] #[24, 24] #[.agg NN33, .agg NN35] en34 _ (HC38.out _) ?_ ReadyF.nil)
    rintro v wq91x19 ⟨he, hb⟩
    cases he
    have Hq91x20 := Hq91x18.below hb
    clear hb
    refine ⟨Hq91x20, ?_⟩
    simp only [Act.put, sT, sS, sZ]
    refine rdy [14] (rcl (some 73) 34 #[.tmp 71, .tmp 72] #[24, 24] #[.agg NN15, .agg NN17] en34 _ (HC40.out _) ?_ ReadyF.nil)
    rintro v wq91x21 ⟨he, hb⟩
    cases he
    have Hq91x22 := Hq91x20.below hb
    clear hb
    refine ⟨Hq91x22, ?_⟩
    simp only [Act.put, sT, sS, sZ]
    refine tkL 15 (some 74) (.build 71 #[(0, .tmp 63), (1, .tmp 70), (2, .tmp 73)]) (.agg PP42) (fun o ho w2 hw => exec_buildN _ 71 #[(0, .tmp 63), (1, .tmp 70), (2, .tmp 73)] ho #[(0, .agg NN31), (1, .agg NN37), (2, .agg NN39)] (by simp [Act.eval]) _ (BF41 _)) Hq91x22 ?_
    simp only [Act.put, sT, sS, sZ]
    refine rdy [16] (ReadyF.last (.store 71 (.tmp 6) (.tmp 74)) rfl (fun o ho => exec_storeT71 wq91x21 (.tmp 6) (.tmp 74) ho (g12) rfl PP42 IPP42 rfl ZR1 71 (Hq91x22.get (g12) ZR1 71 (by simp)) SZZR1) ?_ ReadyF.nil)
    refine any_doneF (by kernel_rfl) ?_ _
    have Hq91x23 : Kt w [(g17, NN2, 24), (g12, PP42, 71), (gq27s0, NN7, 24), (gq27s1, NN9, 24), (gq57s0, NN15, 24), (gq57s1, NN17, 24), (gq79s0, NN27, 24)] (wq91x21.setRow (g12) PP42) := Hq91x22.set (g12) PP42 ZR1 71 (Hq91x22.get (g12) ZR1 71 (by simp)) (by omega) (fun p hp => by simp at hp; rcases hp with rfl | rfl | rfl | rfl | rfl | rfl | rfl <;> first | exact .inl rfl | exact .inr ⟨by simp, by simp only; omega⟩)
    refine nrm_intro ⟨rfl, Hq91x23.sub (fun p hp => by simp at hp; subst hp; simp)⟩
  rintro a' w92 ⟨rfl, hk⟩
  have HS93 := Lib.hid hk
  clear hk HS81
  go_wp2
  exact bodyPost_ret (results_cell rfl _ _ _ ⟨g12, 0, none⟩ rfl _ (loadT71 IPP42 (HS93.out.get (g12) PP42 71 (by simp)))) rfl ⟨rfl, HS93.out.1⟩
end Go.Proofs.YtgbliacncahooaaDoor
