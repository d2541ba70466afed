/- Several texts, one behind the other; each says by itself what it proves, and on what conditions. -/
import Derived.Test.YtgbliacncahooaaDoorGPtA
/- The document's number of the curve; the point that adds nothing. No condition. -/
namespace Go.Proofs.YtgbliacncahooaaDoor
open Go.RowKit Go.Shelf
set_option linter.unusedVariables false
set_option linter.unusedSimpArgs false
set_option maxRecDepth 100000 in
set_option maxHeartbeats 2000000 in
theorem rd_any (w : World) : Calls Tryd.prog 38 #[] w fun e w' => e = .returned (.agg (num dN)) ∧ Below w.heap.size w w' := by
  rw [show num dN = num (mulF (subF (0) (121665)) (invF (121666))) from rfl]
  have HC6 := Lib.hid (rsub_any (0) (121665) (by decide) (by decide))
  have HC10 := Lib.hid (rinv_any (121666) (by decide))
  have HC12 := Lib.hid (rmulf_any (subF (0) (121665)) (invF (121666)) (pp_lt (subF_lt _ _)) (pp_lt (invF_lt _)))
  obtain ⟨NN1, hNN1⟩ : ∃ zz9, Hid (zz9 = num (0)) := ⟨_, Lib.hid rfl⟩
  have INN1 : IsNum NN1 := by rw [hNN1.out]; exact isNum _
  obtain ⟨NN4, hNN4⟩ : ∃ zz9, Hid (zz9 = num (121665)) := ⟨_, Lib.hid rfl⟩
  have INN4 : IsNum NN4 := by rw [hNN4.out]; exact isNum _
  obtain ⟨NN5, hNN5⟩ : ∃ zz9, Hid (zz9 = num (subF (0) (121665))) := ⟨_, Lib.hid rfl⟩
  have INN5 : IsNum NN5 := by rw [hNN5.out]; exact isNum _
  obtain ⟨NN8, hNN8⟩ : ∃ zz9, Hid (zz9 = num (121666)) := ⟨_, Lib.hid rfl⟩
  have INN8 : IsNum NN8 := by rw [hNN8.out]; exact isNum _
  obtain ⟨NN9, hNN9⟩ : ∃ zz9, Hid (zz9 = num (invF (121666))) := ⟨_, Lib.hid rfl⟩
  have INN9 : IsNum NN9 := by rw [hNN9.out]; exact isNum _
  obtain ⟨NN11, hNN11⟩ : ∃ zz9, Hid (zz9 = num (mulF (subF (0) (121665)) (invF (121666)))) := ⟨_, Lib.hid rfl⟩
  have INN11 : IsNum NN11 := by rw [hNN11.out]; exact isNum _
  have HZ24 : ∀ w, (zeroValue 24).run Tryd.prog w = .ok (.agg NN1) w := by rw [hNN1.out]; exact zero_run
  have SZNN1 := INN1.size
  have BF2 : ∀ w, (Instr.build 24 #[]).run Tryd.prog w = .ok (.agg NN1) w := by rw [hNN1.out]; exact build0_run
  have BF3 : ∀ w, (Instr.build 24 #[(0, .int .u64 121665)]).run Tryd.prog w = .ok (.agg NN4) w := by rw [hNN4.out]; exact build_run 121665 (by decide)
  have BF7 : ∀ w, (Instr.build 24 #[(0, .int .u64 121666)]).run Tryd.prog w = .ok (.agg NN8) w := by rw [hNN8.out]; exact build_run 121666 (by decide)
  try simp only [← hNN1.out, ← hNN4.out, ← hNN5.out, ← hNN8.out, ← hNN9.out, ← hNN11.out] at HC6 HC10 HC12 ⊢
  clear hNN1 hNN4 hNN5 hNN8 hNN9 hNN11 
  go_enter Tryd.func38, Tryd.ntmps38
  have HS : Hid (Kt w [] w) := Lib.hid (Kt.nil w)
  go_upto_region 0 with fail
  refine wp_region_list ?_
  refine wpList_run rfl _ (exec_alloc_agg _ 24 rfl _ (HZ24 _)) ?_
  simp only [Act.put, sT, sS, sZ]
  have bg3 := HS.out.1.size
  have HS2 := Lib.hid (HS.out.new NN1 24)
  clear HS
  generalize w.alloc (.cells NN1 24) = w1 at *
  refine wpList_nil ?_
  go_upto_region 1 with fail
  refine wp_region_list ?_
  refine wpList_run rfl (.agg NN1) (exec_buildN _ 24 #[] rfl #[] (by simp [Act.eval]) _ (BF2 _)) ?_
  simp only [Act.put, sT, sS, sZ]
  refine wpList_run rfl (.agg NN4) (exec_buildN _ 24 #[(0, .const (.int .u64 121665))] rfl #[(0, .int .u64 121665)] (by simp [Act.eval]) _ (BF3 _)) ?_
  simp only [Act.put, sT, sS, sZ]
  refine wpList_callF rfl 24 #[.tmp 1, .tmp 2] #[24, 24] rfl #[.agg NN1, .agg NN4] en24 (HC6.out _) ?_
  rintro v w4 ⟨he, hb⟩
  cases he
  have HS5 := Lib.hid (HS2.out.below hb)
  clear hb HS2
  simp only [Act.put, sT, sS, sZ]
  refine wpList_run rfl (.agg NN8) (exec_buildN _ 24 #[(0, .const (.int .u64 121666))] rfl #[(0, .int .u64 121666)] (by simp [Act.eval]) _ (BF7 _)) ?_
  simp only [Act.put, sT, sS, sZ]
  refine wpList_callF rfl 36 #[.tmp 4] #[24] rfl #[.agg NN8] en36 (HC10.out _) ?_
  rintro v w6 ⟨he, hb⟩
  cases he
  have HS7 := Lib.hid (HS5.out.below hb)
  clear hb HS5
  simp only [Act.put, sT, sS, sZ]
  refine wpList_callF rfl 34 #[.tmp 3, .tmp 5] #[24, 24] rfl #[.agg NN5, .agg NN9] en34 (HC12.out _) ?_
  rintro v w8 ⟨he, hb⟩
  cases he
  have HS9 := Lib.hid (HS7.out.below hb)
  clear hb HS7
  simp only [Act.put, sT, sS, sZ]
  refine wpList_run0 rfl (exec_store24 _ (.tmp 0) (.tmp 6) rfl (w.heap.size) rfl NN11 INN11 rfl NN1 24 (HS9.out.get (w.heap.size) NN1 24 (by simp)) SZNN1) ?_
  simp only [Act.put, sT, sS, sZ]
  have HS11 : Hid (Kt w [(w.heap.size, NN11, 24)] (w8.setRow (w.heap.size) NN11)) := Lib.hid (HS9.out.set (w.heap.size) NN11 NN1 24 (HS9.out.get (w.heap.size) NN1 24 (by simp)) (by omega) (fun p hp => by simp at hp; subst hp; exact .inl rfl))
  clear HS9
  generalize w8.setRow (w.heap.size) NN11 = w10 at *
  refine wpList_nil ?_
  go_wp2
  exact bodyPost_ret (results_cell rfl _ _ _ ⟨w.heap.size, 0, none⟩ rfl _ (loadA24 INN11 (HS11.out.get (w.heap.size) NN11 24 (by simp)))) rfl ⟨rfl, HS11.out.1⟩
set_option maxRecDepth 100000 in
set_option maxHeartbeats 2000000 in
theorem nought_any (w : World) : Calls Tryd.prog 25 #[] w fun e w' => e = .returned (.agg (num 0 ++ num 1)) ∧ Below w.heap.size w w' := by
  obtain ⟨ZR1, hZR1⟩ : ∃ zz9, Hid (zz9 = (rowOf .u64 8 (fun _ => 0)).toArray) := ⟨_, Lib.hid rfl⟩
  have SZZR1 : ZR1.size = 8 := by rw [hZR1.out]; rfl
  obtain ⟨NN3, hNN3⟩ : ∃ zz9, Hid (zz9 = num (1)) := ⟨_, Lib.hid rfl⟩
  have INN3 : IsNum NN3 := by rw [hNN3.out]; exact isNum _
  obtain ⟨NN5, hNN5⟩ : ∃ zz9, Hid (zz9 = num (0)) := ⟨_, Lib.hid rfl⟩
  have INN5 : IsNum NN5 := by rw [hNN5.out]; exact isNum _
  obtain ⟨PP6, hPP6⟩ : ∃ zz9, Hid (zz9 = NN5 ++ NN3) := ⟨_, Lib.hid rfl⟩
  have IPP6 : IsRw 8 PP6 := by rw [hPP6.out]; exact rw_app (isRw4 INN5) (isRw4 INN3)
  have SPP6_0 : Part PP6 0 NN5 := by rw [hPP6.out]; exact part_left 0 (part_all NN5) NN3
  have SPP6_4 : Part PP6 4 NN3 := by rw [hPP6.out]; exact part_right (NN5) NN3 4 (by simp [INN5.size])
  have HZ26 : ∀ w, (zeroValue 26).run Tryd.prog w = .ok (.agg ZR1) w := by rw [hZR1.out]; exact zeroT26
  have BF2 : ∀ w, (Instr.build 24 #[(0, .int .u64 1)]).run Tryd.prog w = .ok (.agg NN3) w := by rw [hNN3.out]; exact build_run 1 (by decide)
  have BF4 : ∀ w, (Instr.build 26 #[(1, .agg NN3)]).run Tryd.prog w = .ok (.agg PP6) w := by have q := bp1 INN3; rw [← hNN5.out] at q; rw [hPP6.out]; exact q
  try simp only [← hNN3.out, ← hNN5.out] at  ⊢
  try simp only [← hZR1.out, ← hPP6.out] at  ⊢
  clear hZR1 hNN3 hNN5 hPP6 
  go_enter Tryd.func25, Tryd.ntmps25
  have HS : Hid (Kt w [] w) := Lib.hid (Kt.nil w)
  go_upto_region 0 with fail
  refine wp_region_list ?_
  refine wpList_run rfl _ (exec_alloc_agg _ 26 rfl _ (HZ26 _)) ?_
  simp only [Act.put, sT, sS, sZ]
  have bg3 := HS.out.1.size
  have HS2 := Lib.hid (HS.out.new ZR1 26)
  clear HS
  generalize w.alloc (.cells ZR1 26) = w1 at *
  refine wpList_nil ?_
  go_upto_region 1 with fail
  refine wp_region_list ?_
  refine wpList_run rfl (.agg NN3) (exec_buildN _ 24 #[(0, .const (.int .u64 1))] rfl #[(0, .int .u64 1)] (by simp [Act.eval]) _ (BF2 _)) ?_
  simp only [Act.put, sT, sS, sZ]
  refine wpList_run rfl (.agg PP6) (exec_buildN _ 26 #[(1, .tmp 1)] rfl #[(1, .agg NN3)] (by simp [Act.eval]) _ (BF4 _)) ?_
  simp only [Act.put, sT, sS, sZ]
  refine wpList_run0 rfl (exec_storeT26 _ (.tmp 0) (.tmp 2) rfl (w.heap.size) rfl PP6 IPP6 rfl ZR1 26 (HS2.out.get (w.heap.size) ZR1 26 (by simp)) SZZR1) ?_
  simp only [Act.put, sT, sS, sZ]
  have HS5 : Hid (Kt w [(w.heap.size, PP6, 26)] (w1.setRow (w.heap.size) PP6)) := Lib.hid (HS2.out.set (w.heap.size) PP6 ZR1 26 (HS2.out.get (w.heap.size) ZR1 26 (by simp)) (by omega) (fun p hp => by simp at hp; subst hp; exact .inl rfl))
  clear HS2
  generalize w1.setRow (w.heap.size) PP6 = w4 at *
  refine wpList_nil ?_
  go_wp2
  exact bodyPost_ret (results_cell rfl _ _ _ ⟨w.heap.size, 0, none⟩ rfl _ (loadT26 IPP6 (HS5.out.get (w.heap.size) PP6 26 (by simp)))) rfl ⟨rfl, HS5.out.1⟩
end Go.Proofs.YtgbliacncahooaaDoor
/- over, plain of package point: a point as a ratio, a ratio as a point. No condition but that the numbers have 256 bits. -/
namespace Go.Proofs.YtgbliacncahooaaDoor
open Go.RowKit Go.Shelf
set_option linter.unusedVariables false
set_option linter.unusedSimpArgs false
set_option maxRecDepth 100000 in
set_option maxHeartbeats 2000000 in
theorem over_any (x1 y1 : Nat) (hx1 : x1 < 115792089237316195423570985008687907853269984665640564039457584007913129639936) (hy1 : y1 < 115792089237316195423570985008687907853269984665640564039457584007913129639936) (w : World) :
    Calls Tryd.prog 45 #[.agg (num x1 ++ num y1)] w fun e w' => e = .returned (.agg (num x1 ++ num y1 ++ num 1 ++ num (mulF x1 y1))) ∧ Below w.heap.size w w' := by
  have HC5 := Lib.hid (mulf_any (x1) (y1) hx1 hy1)
  obtain ⟨X10, hX10⟩ : ∃ zz9, Hid (zz9 = num (x1)) := ⟨_, Lib.hid rfl⟩
  have IX10 : IsNum X10 := by rw [hX10.out]; exact isNum _
  obtain ⟨Y10, hY10⟩ : ∃ zz9, Hid (zz9 = num (y1)) := ⟨_, Lib.hid rfl⟩
  have IY10 : IsNum Y10 := by rw [hY10.out]; exact isNum _
  obtain ⟨PA, hPA⟩ : ∃ zz9, Hid (zz9 = X10 ++ Y10) := ⟨_, Lib.hid rfl⟩
  have IPA : IsRw 8 PA := by rw [hPA.out]; exact rw_app (isRw4 IX10) (isRw4 IY10)
  have SPA_0 : Part PA 0 X10 := by rw [hPA.out]; exact part_left 0 (part_all X10) Y10
  have SPA_4 : Part PA 4 Y10 := by rw [hPA.out]; exact part_right (X10) Y10 4 (by simp [IX10.size])
  obtain ⟨ZR1, hZR1⟩ : ∃ zz9, Hid (zz9 = (rowOf .u64 16 (fun _ => 0)).toArray) := ⟨_, Lib.hid rfl⟩
  have SZZR1 : ZR1.size = 16 := by rw [hZR1.out]; rfl
  obtain ⟨NN3, hNN3⟩ : ∃ zz9, Hid (zz9 = num (1)) := ⟨_, Lib.hid rfl⟩
  have INN3 : IsNum NN3 := by rw [hNN3.out]; exact isNum _
  obtain ⟨NN4, hNN4⟩ : ∃ zz9, Hid (zz9 = num (mulF (x1) (y1))) := ⟨_, Lib.hid rfl⟩
  have INN4 : IsNum NN4 := by rw [hNN4.out]; exact isNum _
  obtain ⟨PP7, hPP7⟩ : ∃ zz9, Hid (zz9 = X10 ++ Y10 ++ NN3 ++ NN4) := ⟨_, Lib.hid rfl⟩
  have IPP7 : IsRw 16 PP7 := by rw [hPP7.out]; exact rw_app (rw_app (rw_app (isRw4 IX10) (isRw4 IY10)) (isRw4 INN3)) (isRw4 INN4)
  have SPP7_0 : Part PP7 0 X10 := by rw [hPP7.out]; exact part_left 0 (part_left 0 (part_left 0 (part_all X10) Y10) NN3) NN4
  have SPP7_4 : Part PP7 4 Y10 := by rw [hPP7.out]; exact part_left 4 (part_left 4 (part_right (X10) Y10 4 (by simp [IX10.size])) NN3) NN4
  have SPP7_8 : Part PP7 8 NN3 := by rw [hPP7.out]; exact part_left 8 (part_right (X10 ++ Y10) NN3 8 (by simp [IX10.size, IY10.size])) NN4
  have SPP7_12 : Part PP7 12 NN4 := by rw [hPP7.out]; exact part_right (X10 ++ Y10 ++ NN3) NN4 12 (by simp [IX10.size, IY10.size, INN3.size])
  have HZ66 : ∀ w, (zeroValue 66).run Tryd.prog w = .ok (.agg ZR1) w := by rw [hZR1.out]; exact zeroT66
  have BF2 : ∀ w, (Instr.build 24 #[(0, .int .u64 1)]).run Tryd.prog w = .ok (.agg NN3) w := by rw [hNN3.out]; exact build_run 1 (by decide)
  have BF6 : ∀ w, (Instr.build 66 #[(0, .agg X10), (1, .agg Y10), (2, .agg NN3), (3, .agg NN4)]).run Tryd.prog w = .ok (.agg PP7) w := by rw [hPP7.out]; exact br0123 IX10 IY10 INN3 INN4
  try simp only [← hX10.out, ← hY10.out, ← hNN3.out, ← hNN4.out] at HC5 ⊢
  try simp only [← hZR1.out, ← hPP7.out] at HC5 ⊢
  try simp only [← hPA.out] at HC5 ⊢
  clear hX10 hY10 hPA hZR1 hNN3 hNN4 hPP7 hx1 hy1
  go_enter Tryd.func45, Tryd.ntmps45
  have HS : Hid (Kt w [] w) := Lib.hid (Kt.nil w)
  go_upto_region 0 with fail
  refine wp_region_list ?_
  refine wpList_run rfl _ (exec_box _ 26 (.tmp 0) rfl _ rfl (PA) rfl) ?_
  simp only [Act.put, sT, sS, sZ]
  have bg3 := HS.out.1.size
  have HS2 := Lib.hid (HS.out.new PA 26)
  clear HS
  generalize w.alloc (.cells PA 26) = w1 at *
  refine wpList_run rfl _ (exec_alloc_agg _ 66 rfl _ (HZ66 _)) ?_
  simp only [Act.put, sT, sS, sZ]
  have lg6_0 := HS2.out.lt (w.heap.size) PA 26 (by simp)
  have bg6 := HS2.out.1.size
  have HS5 := Lib.hid (HS2.out.new ZR1 66)
  clear HS2
  generalize w1.alloc (.cells ZR1 66) = w4 at *
  generalize w1.heap.size = g6 at *
  refine wpList_nil ?_
  go_upto_region 1 with fail
  refine wp_cut (fun a' W' => a' = { tmps := #[.agg PA, .pointer (some ⟨w.heap.size, 0, none⟩), .pointer (some ⟨g6, 0, none⟩), .pointer (some ⟨w.heap.size, 0, none⟩), .agg X10, .pointer (some ⟨w.heap.size, 4, none⟩), .agg Y10, .agg NN3, .pointer (some ⟨w.heap.size, 0, none⟩), .agg X10, .pointer (some ⟨w.heap.size, 4, none⟩), .agg Y10, .agg NN4, .agg PP7], defers := [] } ∧ Kt w [(g6, PP7, 66)] W') ?_ ?_
  · refine wp_region_any (by kernel_rfl) ?_
    change wpAny _ _ _ _ _ _ _ (World.drew _)
    have HDq7x1 := HS5.out.drew
    clear HS5
    generalize w4.drew = wdq7x2 at *
    refine any_of_F (S := Kt w [(g6, ZR1, 66), (w.heap.size, PA, 26)]) (f := 11) _ _ _ _ ?_
    refine tkL 0 (some 3) (.fieldAddr 26 (.tmp 1) 0) (.pointer (some ⟨w.heap.size, 0, none⟩)) (fun o ho w2 hw => exec_field 26 (.tmp 1) 0 ho _ _ rfl w2 (fa26_0 (w.heap.size) w2)) HDq7x1 ?_
    simp only [Act.put, sT, sS, sZ]
    refine tkL 1 (some 4) (.load 24 (.tmp 3)) (.agg X10) (fun o ho w2 hw => exec_load_of _ 24 (.tmp 3) ho ⟨w.heap.size, 0, none⟩ rfl _ (load_part (hw.get (w.heap.size) PA 26 (by simp)) IX10 0 SPA_0)) HDq7x1 ?_
    simp only [Act.put, sT, sS, sZ]
    refine tkL 2 (some 5) (.fieldAddr 26 (.tmp 1) 1) (.pointer (some ⟨w.heap.size, 4, none⟩)) (fun o ho w2 hw => exec_field 26 (.tmp 1) 1 ho _ _ rfl w2 (fa26_1 (w.heap.size) w2)) HDq7x1 ?_
    simp only [Act.put, sT, sS, sZ]
    refine tkL 3 (some 6) (.load 24 (.tmp 5)) (.agg Y10) (fun o ho w2 hw => exec_load_of _ 24 (.tmp 5) ho ⟨w.heap.size, 4, none⟩ rfl _ (load_part (hw.get (w.heap.size) PA 26 (by simp)) IY10 4 SPA_4)) HDq7x1 ?_
    simp only [Act.put, sT, sS, sZ]
    refine tkL 4 (some 7) (.build 24 #[(0, .const (.int .u64 1))]) (.agg NN3) (fun o ho w2 hw => exec_buildN _ 24 #[(0, .const (.int .u64 1))] ho #[(0, .int .u64 1)] (by simp [Act.eval]) _ (BF2 _)) HDq7x1 ?_
    simp only [Act.put, sT, sS, sZ]
    refine tkL 5 (some 8) (.fieldAddr 26 (.tmp 1) 0) (.pointer (some ⟨w.heap.size, 0, none⟩)) (fun o ho w2 hw => exec_field 26 (.tmp 1) 0 ho _ _ rfl w2 (fa26_0 (w.heap.size) w2)) HDq7x1 ?_
    simp only [Act.put, sT, sS, sZ]
    refine tkL 6 (some 9) (.load 24 (.tmp 8)) (.agg X10) (fun o ho w2 hw => exec_load_of _ 24 (.tmp 8) ho ⟨w.heap.size, 0, none⟩ rfl _ (load_part (hw.get (w.heap.size) PA 26 (by simp)) IX10 0 SPA_0)) HDq7x1 ?_
    simp only [Act.put, sT, sS, sZ]
    refine tkL 7 (some 10) (.fieldAddr 26 (.tmp 1) 1) (.pointer (some ⟨w.heap.size, 4, none⟩)) (fun o ho w2 hw => exec_field 26 (.tmp 1) 1 ho _ _ rfl w2 (fa26_1 (w.heap.size) w2)) HDq7x1 ?_
    simp only [Act.put, sT, sS, sZ]
    refine tkL 8 (some 11) (.load 24 (.tmp 10)) (.agg Y10) (fun o ho w2 hw => exec_load_of _ 24 (.tmp 10) ho ⟨w.heap.size, 4, none⟩ rfl _ (load_part (hw.get (w.heap.size) PA 26 (by simp)) IY10 4 SPA_4)) HDq7x1 ?_
    simp only [Act.put, sT, sS, sZ]
    refine rdy [9] (rcl (some 12) 40 #[.tmp 9, .tmp 11] #[24, 24] #[.agg X10, .agg Y10] en40 _ (HC5.out _) ?_ ReadyF.nil)
    rintro v wq7x11 ⟨he, hb⟩
    cases he
    have Hq7x12 := HDq7x1.below hb
    clear hb
    refine ⟨Hq7x12, ?_⟩
    simp only [Act.put, sT, sS, sZ]
    refine tkL 10 (some 13) (.build 66 #[(0, .tmp 4), (1, .tmp 6), (2, .tmp 7), (3, .tmp 12)]) (.agg PP7) (fun o ho w2 hw => exec_buildN _ 66 #[(0, .tmp 4), (1, .tmp 6), (2, .tmp 7), (3, .tmp 12)] ho #[(0, .agg X10), (1, .agg Y10), (2, .agg NN3), (3, .agg NN4)] (by simp [Act.eval]) _ (BF6 _)) Hq7x12 ?_
    simp only [Act.put, sT, sS, sZ]
    refine rdy [11] (ReadyF.last (.store 66 (.tmp 2) (.tmp 13)) rfl (fun o ho => exec_storeT66 wq7x11 (.tmp 2) (.tmp 13) ho (g6) rfl PP7 IPP7 rfl ZR1 66 (Hq7x12.get (g6) ZR1 66 (by simp)) SZZR1) ?_ ReadyF.nil)
    refine any_doneF (by kernel_rfl) ?_ _
    have Hq7x13 : Kt w [(g6, PP7, 66), (w.heap.size, PA, 26)] (wq7x11.setRow (g6) PP7) := Hq7x12.set (g6) PP7 ZR1 66 (Hq7x12.get (g6) ZR1 66 (by simp)) (by omega) (fun p hp => by simp at hp; rcases hp with rfl | rfl <;> first | exact .inl rfl | exact .inr ⟨by simp, by simp only; omega⟩)
    refine nrm_intro ⟨rfl, Hq7x13.sub (fun p hp => by simp at hp; subst hp; simp)⟩
  rintro a' w8 ⟨rfl, hk⟩
  have HS9 := Lib.hid hk
  clear hk HS5
  go_wp2
  exact bodyPost_ret (results_cell rfl _ _ _ ⟨g6, 0, none⟩ rfl _ (loadT66 IPP7 (HS9.out.get (g6) PP7 66 (by simp)))) rfl ⟨rfl, HS9.out.1⟩
set_option maxRecDepth 100000 in
set_option maxHeartbeats 2000000 in
theorem plain_any (x1 y1 z1 t1 : Nat) (hx1 : x1 < 115792089237316195423570985008687907853269984665640564039457584007913129639936) (hy1 : y1 < 115792089237316195423570985008687907853269984665640564039457584007913129639936) (hz1 : z1 < 115792089237316195423570985008687907853269984665640564039457584007913129639936) (ht1 : t1 < 115792089237316195423570985008687907853269984665640564039457584007913129639936) (w : World) :
    Calls Tryd.prog 43 #[.agg (num x1 ++ num y1 ++ num z1 ++ num t1)] w fun e w' => e = .returned (.agg (num (mulF x1 (invF z1)) ++ num (mulF y1 (invF z1)))) ∧ Below w.heap.size w w' := by
  have HC3 := Lib.hid (inv_any (z1) hz1)
  have HC6 := Lib.hid (mulf_any (x1) (invF (z1)) hx1 (pp_lt (invF_lt _)))
  have HC8 := Lib.hid (mulf_any (y1) (invF (z1)) hy1 (pp_lt (invF_lt _)))
  obtain ⟨X10, hX10⟩ : ∃ zz9, Hid (zz9 = num (x1)) := ⟨_, Lib.hid rfl⟩
  have IX10 : IsNum X10 := by rw [hX10.out]; exact isNum _
  obtain ⟨Y10, hY10⟩ : ∃ zz9, Hid (zz9 = num (y1)) := ⟨_, Lib.hid rfl⟩
  have IY10 : IsNum Y10 := by rw [hY10.out]; exact isNum _
  obtain ⟨Z10, hZ10⟩ : ∃ zz9, Hid (zz9 = num (z1)) := ⟨_, Lib.hid rfl⟩
  have IZ10 : IsNum Z10 := by rw [hZ10.out]; exact isNum _
  obtain ⟨T10, hT10⟩ : ∃ zz9, Hid (zz9 = num (t1)) := ⟨_, Lib.hid rfl⟩
  have IT10 : IsNum T10 := by rw [hT10.out]; exact isNum _
  obtain ⟨PA, hPA⟩ : ∃ zz9, Hid (zz9 = X10 ++ Y10 ++ Z10 ++ T10) := ⟨_, Lib.hid rfl⟩
  have IPA : IsRw 16 PA := by rw [hPA.out]; exact rw_app (rw_app (rw_app (isRw4 IX10) (isRw4 IY10)) (isRw4 IZ10)) (isRw4 IT10)
  have SPA_0 : Part PA 0 X10 := by rw [hPA.out]; exact part_left 0 (part_left 0 (part_left 0 (part_all X10) Y10) Z10) T10
  have SPA_4 : Part PA 4 Y10 := by rw [hPA.out]; exact part_left 4 (part_left 4 (part_right (X10) Y10 4 (by simp [IX10.size])) Z10) T10
  have SPA_8 : Part PA 8 Z10 := by rw [hPA.out]; exact part_left 8 (part_right (X10 ++ Y10) Z10 8 (by simp [IX10.size, IY10.size])) T10
  have SPA_12 : Part PA 12 T10 := by rw [hPA.out]; exact part_right (X10 ++ Y10 ++ Z10) T10 12 (by simp [IX10.size, IY10.size, IZ10.size])
  obtain ⟨ZR1, hZR1⟩ : ∃ zz9, Hid (zz9 = (rowOf .u64 8 (fun _ => 0)).toArray) := ⟨_, Lib.hid rfl⟩
  have SZZR1 : ZR1.size = 8 := by rw [hZR1.out]; rfl
  obtain ⟨NN2, hNN2⟩ : ∃ zz9, Hid (zz9 = num (invF (z1))) := ⟨_, Lib.hid rfl⟩
  have INN2 : IsNum NN2 := by rw [hNN2.out]; exact isNum _
  obtain ⟨NN4, hNN4⟩ : ∃ zz9, Hid (zz9 = num (0)) := ⟨_, Lib.hid rfl⟩
  have INN4 : IsNum NN4 := by rw [hNN4.out]; exact isNum _
  obtain ⟨NN5, hNN5⟩ : ∃ zz9, Hid (zz9 = num (mulF (x1) (invF (z1)))) := ⟨_, Lib.hid rfl⟩
  have INN5 : IsNum NN5 := by rw [hNN5.out]; exact isNum _
  obtain ⟨NN7, hNN7⟩ : ∃ zz9, Hid (zz9 = num (mulF (y1) (invF (z1)))) := ⟨_, Lib.hid rfl⟩
  have INN7 : IsNum NN7 := by rw [hNN7.out]; exact isNum _
  obtain ⟨PP10, hPP10⟩ : ∃ zz9, Hid (zz9 = NN5 ++ NN7) := ⟨_, Lib.hid rfl⟩
  have IPP10 : IsRw 8 PP10 := by rw [hPP10.out]; exact rw_app (isRw4 INN5) (isRw4 INN7)
  have SPP10_0 : Part PP10 0 NN5 := by rw [hPP10.out]; exact part_left 0 (part_all NN5) NN7
  have SPP10_4 : Part PP10 4 NN7 := by rw [hPP10.out]; exact part_right (NN5) NN7 4 (by simp [INN5.size])
  have HZ26 : ∀ w, (zeroValue 26).run Tryd.prog w = .ok (.agg ZR1) w := by rw [hZR1.out]; exact zeroT26
  have HZ24 : ∀ w, (zeroValue 24).run Tryd.prog w = .ok (.agg NN4) w := by rw [hNN4.out]; exact zero_run
  have SZNN4 := INN4.size
  have BF9 : ∀ w, (Instr.build 26 #[(0, .agg NN5), (1, .agg NN7)]).run Tryd.prog w = .ok (.agg PP10) w := by rw [hPP10.out]; exact bp01 INN5 INN7
  try simp only [← hX10.out, ← hY10.out, ← hZ10.out, ← hT10.out, ← hNN2.out, ← hNN4.out, ← hNN5.out, ← hNN7.out] at HC3 HC6 HC8 ⊢
  try simp only [← hPA.out] at HC3 HC6 HC8 ⊢
  try simp only [← hZR1.out, ← hPP10.out] at HC3 HC6 HC8 ⊢
  clear hX10 hY10 hZ10 hT10 hPA hZR1 hNN2 hNN4 hNN5 hNN7 hPP10 hx1 hy1 hz1 ht1
  go_enter Tryd.func43, Tryd.ntmps43
  have HS : Hid (Kt w [] w) := Lib.hid (Kt.nil w)
  go_upto_region 0 with fail
  refine wp_region_list ?_
  refine wpList_run rfl _ (exec_box _ 66 (.tmp 0) rfl _ rfl (PA) rfl) ?_
  simp only [Act.put, sT, sS, sZ]
  have bg3 := HS.out.1.size
  have HS2 := Lib.hid (HS.out.new PA 66)
  clear HS
  generalize w.alloc (.cells PA 66) = w1 at *
  refine wpList_run rfl _ (exec_alloc_agg _ 26 rfl _ (HZ26 _)) ?_
  simp only [Act.put, sT, sS, sZ]
  have lg6_0 := HS2.out.lt (w.heap.size) PA 66 (by simp)
  have bg6 := HS2.out.1.size
  have HS5 := Lib.hid (HS2.out.new ZR1 26)
  clear HS2
  generalize w1.alloc (.cells ZR1 26) = w4 at *
  generalize w1.heap.size = g6 at *
  refine wpList_nil ?_
  go_upto_region 1 with fail
  refine wp_region_list ?_
  refine wpList_run rfl (.pointer (some ⟨w.heap.size, 8, none⟩)) (exec_field 66 (.tmp 1) 2 rfl _ _ rfl _ (fa66_2 (w.heap.size) _)) ?_
  simp only [Act.put, sT, sS, sZ]
  refine wpList_run rfl (.agg Z10) (exec_load_of _ 24 (.tmp 4) rfl ⟨w.heap.size, 8, none⟩ rfl _ (load_part (HS5.out.get (w.heap.size) PA 66 (by simp)) IZ10 8 SPA_8)) ?_
  simp only [Act.put, sT, sS, sZ]
  refine wpList_callF rfl 53 #[.tmp 5] #[24] rfl #[.agg Z10] en53 (HC3.out _) ?_
  rintro v w7 ⟨he, hb⟩
  cases he
  have HS8 := Lib.hid (HS5.out.below hb)
  clear hb HS5
  simp only [Act.put, sT, sS, sZ]
  refine wpList_run rfl _ (exec_alloc_agg _ 24 rfl _ (HZ24 _)) ?_
  simp only [Act.put, sT, sS, sZ]
  have lg11_0 := HS8.out.lt (g6) ZR1 26 (by simp)
  have lg11_1 := HS8.out.lt (w.heap.size) PA 66 (by simp)
  have bg11 := HS8.out.1.size
  have HS10 := Lib.hid (HS8.out.new NN4 24)
  clear HS8
  generalize w7.alloc (.cells NN4 24) = w9 at *
  generalize w7.heap.size = g11 at *
  refine wpList_run0 rfl (exec_store24 _ (.tmp 3) (.tmp 6) rfl (g11) rfl NN2 INN2 rfl NN4 24 (HS10.out.get (g11) NN4 24 (by simp)) SZNN4) ?_
  simp only [Act.put, sT, sS, sZ]
  have HS13 : Hid (Kt w [(g11, NN2, 24), (g6, ZR1, 26), (w.heap.size, PA, 66)] (w9.setRow (g11) NN2)) := Lib.hid (HS10.out.set (g11) NN2 NN4 24 (HS10.out.get (g11) NN4 24 (by simp)) (by omega) (fun p hp => by simp at hp; rcases hp with rfl | rfl | rfl <;> first | exact .inl rfl | exact .inr ⟨by simp, by simp only; omega⟩))
  clear HS10
  generalize w9.setRow (g11) NN2 = w12 at *
  refine wpList_nil ?_
  go_upto_region 2 with fail
  refine wp_cut (fun a' W' => a' = { tmps := #[.agg PA, .pointer (some ⟨w.heap.size, 0, none⟩), .pointer (some ⟨g6, 0, none⟩), .pointer (some ⟨g11, 0, none⟩), .pointer (some ⟨w.heap.size, 8, none⟩), .agg Z10, .agg NN2, .pointer (some ⟨w.heap.size, 0, none⟩), .agg X10, .agg NN2, .agg NN5, .pointer (some ⟨w.heap.size, 4, none⟩), .agg Y10, .agg NN2, .agg NN7, .agg PP10], defers := [] } ∧ Kt w [(g6, PP10, 26)] W') ?_ ?_
  · refine wp_region_any (by kernel_rfl) ?_
    change wpAny _ _ _ _ _ _ _ (World.drew _)
    have HDq14x1 := HS13.out.drew
    clear HS13
    generalize w12.drew = wdq14x2 at *
    refine any_of_F (S := Kt w [(g11, NN2, 24), (g6, ZR1, 26), (w.heap.size, PA, 66)]) (f := 9) _ _ _ _ ?_
    refine tkL 0 (some 7) (.fieldAddr 66 (.tmp 1) 0) (.pointer (some ⟨w.heap.size, 0, none⟩)) (fun o ho w2 hw => exec_field 66 (.tmp 1) 0 ho _ _ rfl w2 (fa66_0 (w.heap.size) w2)) HDq14x1 ?_
    simp only [Act.put, sT, sS, sZ]
    refine tkL 1 (some 8) (.load 24 (.tmp 7)) (.agg X10) (fun o ho w2 hw => exec_load_of _ 24 (.tmp 7) ho ⟨w.heap.size, 0, none⟩ rfl _ (load_part (hw.get (w.heap.size) PA 66 (by simp)) IX10 0 SPA_0)) HDq14x1 ?_
    simp only [Act.put, sT, sS, sZ]
    refine tkL 2 (some 9) (.load 24 (.tmp 3)) (.agg NN2) (fun o ho w2 hw => exec_load_of _ 24 (.tmp 3) ho ⟨g11, 0, none⟩ rfl _ (loadA24 INN2 (hw.get (g11) NN2 24 (by simp)))) HDq14x1 ?_
    simp only [Act.put, sT, sS, sZ]
    refine tkL 4 (some 11) (.fieldAddr 66 (.tmp 1) 1) (.pointer (some ⟨w.heap.size, 4, none⟩)) (fun o ho w2 hw => exec_field 66 (.tmp 1) 1 ho _ _ rfl w2 (fa66_1 (w.heap.size) w2)) HDq14x1 ?_
    simp only [Act.put, sT, sS, sZ]
    refine tkL 5 (some 12) (.load 24 (.tmp 11)) (.agg Y10) (fun o ho w2 hw => exec_load_of _ 24 (.tmp 11) ho ⟨w.heap.size, 4, none⟩ rfl _ (load_part (hw.get (w.heap.size) PA 66 (by simp)) IY10 4 SPA_4)) HDq14x1 ?_
    simp only [Act.put, sT, sS, sZ]
    refine tkL 6 (some 13) (.load 24 (.tmp 3)) (.agg NN2) (fun o ho w2 hw => exec_load_of _ 24 (.tmp 3) ho ⟨g11, 0, none⟩ rfl _ (loadA24 INN2 (hw.get (g11) NN2 24 (by simp)))) HDq14x1 ?_
    simp only [Act.put, sT, sS, sZ]
    refine rdy [3] (rcl (some 10) 40 #[.tmp 8, .tmp 9] #[24, 24] #[.agg X10, .agg NN2] en40 _ (HC6.out _) ?_ ReadyF.nil)
    rintro v wq14x11 ⟨he, hb⟩
    cases he
    have Hq14x12 := HDq14x1.below hb
    clear hb
    refine ⟨Hq14x12, ?_⟩
    simp only [Act.put, sT, sS, sZ]
    refine rdy [7] (rcl (some 14) 40 #[.tmp 12, .tmp 13] #[24, 24] #[.agg Y10, .agg NN2] en40 _ (HC8.out _) ?_ ReadyF.nil)
    rintro v wq14x13 ⟨he, hb⟩
    cases he
    have Hq14x14 := Hq14x12.below hb
    clear hb
    refine ⟨Hq14x14, ?_⟩
    simp only [Act.put, sT, sS, sZ]
    refine tkL 8 (some 15) (.build 26 #[(0, .tmp 10), (1, .tmp 14)]) (.agg PP10) (fun o ho w2 hw => exec_buildN _ 26 #[(0, .tmp 10), (1, .tmp 14)] ho #[(0, .agg NN5), (1, .agg NN7)] (by simp [Act.eval]) _ (BF9 _)) Hq14x14 ?_
    simp only [Act.put, sT, sS, sZ]
    refine rdy [9] (ReadyF.last (.store 26 (.tmp 2) (.tmp 15)) rfl (fun o ho => exec_storeT26 wq14x13 (.tmp 2) (.tmp 15) ho (g6) rfl PP10 IPP10 rfl ZR1 26 (Hq14x14.get (g6) ZR1 26 (by simp)) SZZR1) ?_ ReadyF.nil)
    refine any_doneF (by kernel_rfl) ?_ _
    have Hq14x15 : Kt w [(g11, NN2, 24), (g6, PP10, 26), (w.heap.size, PA, 66)] (wq14x13.setRow (g6) PP10) := Hq14x14.set (g6) PP10 ZR1 26 (Hq14x14.get (g6) ZR1 26 (by simp)) (by omega) (fun p hp => by simp at hp; rcases hp with rfl | rfl | rfl <;> first | exact .inl rfl | exact .inr ⟨by simp, by simp only; omega⟩)
    refine nrm_intro ⟨rfl, Hq14x15.sub (fun p hp => by simp at hp; subst hp; simp)⟩
  rintro a' w15 ⟨rfl, hk⟩
  have HS16 := Lib.hid hk
  clear hk HS13
  go_wp2
  exact bodyPost_ret (results_cell rfl _ _ _ ⟨g6, 0, none⟩ rfl _ (loadT26 IPP10 (HS16.out.get (g6) PP10 26 (by simp)))) rfl ⟨rfl, HS16.out.1⟩
end Go.Proofs.YtgbliacncahooaaDoor
/- flat of the document: a point without its denominator. No condition but that the numbers have 256 bits. -/
namespace Go.Proofs.YtgbliacncahooaaDoor
open Go.RowKit Go.Shelf
set_option linter.unusedVariables false
set_option linter.unusedSimpArgs false
set_option maxRecDepth 100000 in
set_option maxHeartbeats 2000000 in
theorem rflat_any (x1 y1 z1 : Nat) (hx1 : x1 < 115792089237316195423570985008687907853269984665640564039457584007913129639936) (hy1 : y1 < 115792089237316195423570985008687907853269984665640564039457584007913129639936) (hz1 : z1 < 115792089237316195423570985008687907853269984665640564039457584007913129639936) (w : World) :
    Calls Tryd.prog 46 #[.agg (num x1 ++ num y1 ++ num z1)] w fun e w' => e = .returned (.agg (num (mulF x1 (invF z1)) ++ num (mulF y1 (invF z1)))) ∧ Below w.heap.size w w' := by
  have HC3 := Lib.hid (rinv_any (z1) hz1)
  have HC6 := Lib.hid (rmulf_any (x1) (invF (z1)) hx1 (pp_lt (invF_lt _)))
  have HC8 := Lib.hid (rmulf_any (y1) (invF (z1)) hy1 (pp_lt (invF_lt _)))
  obtain ⟨X10, hX10⟩ : ∃ zz9, Hid (zz9 = num (x1)) := ⟨_, Lib.hid rfl⟩
  have IX10 : IsNum X10 := by rw [hX10.out]; exact isNum _
  obtain ⟨Y10, hY10⟩ : ∃ zz9, Hid (zz9 = num (y1)) := ⟨_, Lib.hid rfl⟩
  have IY10 : IsNum Y10 := by rw [hY10.out]; exact isNum _
  obtain ⟨Z10, hZ10⟩ : ∃ zz9, Hid (zz9 = num (z1)) := ⟨_, Lib.hid rfl⟩
  have IZ10 : IsNum Z10 := by rw [hZ10.out]; exact isNum _
  obtain ⟨PA, hPA⟩ : ∃ zz9, Hid (zz9 = X10 ++ Y10 ++ Z10) := ⟨_, Lib.hid rfl⟩
  have IPA : IsRw 12 PA := by rw [hPA.out]; exact rw_app (rw_app (isRw4 IX10) (isRw4 IY10)) (isRw4 IZ10)
  have SPA_0 : Part PA 0 X10 := by rw [hPA.out]; exact part_left 0 (part_left 0 (part_all X10) Y10) Z10
  have SPA_4 : Part PA 4 Y10 := by rw [hPA.out]; exact part_left 4 (part_right (X10) Y10 4 (by simp [IX10.size])) Z10
  have SPA_8 : Part PA 8 Z10 := by rw [hPA.out]; exact part_right (X10 ++ Y10) Z10 8 (by simp [IX10.size, IY10.size])
  obtain ⟨ZR1, hZR1⟩ : ∃ zz9, Hid (zz9 = (rowOf .u64 8 (fun _ => 0)).toArray) := ⟨_, Lib.hid rfl⟩
  have SZZR1 : ZR1.size = 8 := by rw [hZR1.out]; rfl
  obtain ⟨NN2, hNN2⟩ : ∃ zz9, Hid (zz9 = num (invF (z1))) := ⟨_, Lib.hid rfl⟩
  have INN2 : IsNum NN2 := by rw [hNN2.out]; exact isNum _
  obtain ⟨NN4, hNN4⟩ : ∃ zz9, Hid (zz9 = num (0)) := ⟨_, Lib.hid rfl⟩
  have INN4 : IsNum NN4 := by rw [hNN4.out]; exact isNum _
  obtain ⟨NN5, hNN5⟩ : ∃ zz9, Hid (zz9 = num (mulF (x1) (invF (z1)))) := ⟨_, Lib.hid rfl⟩
  have INN5 : IsNum NN5 := by rw [hNN5.out]; exact isNum _
  obtain ⟨NN7, hNN7⟩ : ∃ zz9, Hid (zz9 = num (mulF (y1) (invF (z1)))) := ⟨_, Lib.hid rfl⟩
  have INN7 : IsNum NN7 := by rw [hNN7.out]; exact isNum _
  obtain ⟨PP10, hPP10⟩ : ∃ zz9, Hid (zz9 = NN5 ++ NN7) := ⟨_, Lib.hid rfl⟩
  have IPP10 : IsRw 8 PP10 := by rw [hPP10.out]; exact rw_app (isRw4 INN5) (isRw4 INN7)
  have SPP10_0 : Part PP10 0 NN5 := by rw [hPP10.out]; exact part_left 0 (part_all NN5) NN7
  have SPP10_4 : Part PP10 4 NN7 := by rw [hPP10.out]; exact part_right (NN5) NN7 4 (by simp [INN5.size])
  have HZ26 : ∀ w, (zeroValue 26).run Tryd.prog w = .ok (.agg ZR1) w := by rw [hZR1.out]; exact zeroT26
  have HZ24 : ∀ w, (zeroValue 24).run Tryd.prog w = .ok (.agg NN4) w := by rw [hNN4.out]; exact zero_run
  have SZNN4 := INN4.size
  have BF9 : ∀ w, (Instr.build 26 #[(0, .agg NN5), (1, .agg NN7)]).run Tryd.prog w = .ok (.agg PP10) w := by rw [hPP10.out]; exact bp01 INN5 INN7
  try simp only [← hX10.out, ← hY10.out, ← hZ10.out, ← hNN2.out, ← hNN4.out, ← hNN5.out, ← hNN7.out] at HC3 HC6 HC8 ⊢
  try simp only [← hPA.out] at HC3 HC6 HC8 ⊢
  try simp only [← hZR1.out, ← hPP10.out] at HC3 HC6 HC8 ⊢
  clear hX10 hY10 hZ10 hPA hZR1 hNN2 hNN4 hNN5 hNN7 hPP10 hx1 hy1 hz1
  go_enter Tryd.func46, Tryd.ntmps46
  have HS : Hid (Kt w [] w) := Lib.hid (Kt.nil w)
  go_upto_region 0 with fail
  refine wp_region_list ?_
  refine wpList_run rfl _ (exec_box _ 71 (.tmp 0) rfl _ rfl (PA) rfl) ?_
  simp only [Act.put, sT, sS, sZ]
  have bg3 := HS.out.1.size
  have HS2 := Lib.hid (HS.out.new PA 71)
  clear HS
  generalize w.alloc (.cells PA 71) = w1 at *
  refine wpList_run rfl _ (exec_alloc_agg _ 26 rfl _ (HZ26 _)) ?_
  simp only [Act.put, sT, sS, sZ]
  have lg6_0 := HS2.out.lt (w.heap.size) PA 71 (by simp)
  have bg6 := HS2.out.1.size
  have HS5 := Lib.hid (HS2.out.new ZR1 26)
  clear HS2
  generalize w1.alloc (.cells ZR1 26) = w4 at *
  generalize w1.heap.size = g6 at *
  refine wpList_nil ?_
  go_upto_region 1 with fail
  refine wp_region_list ?_
  refine wpList_run rfl (.pointer (some ⟨w.heap.size, 8, none⟩)) (exec_field 71 (.tmp 1) 2 rfl _ _ rfl _ (fa71_2 (w.heap.size) _)) ?_
  simp only [Act.put, sT, sS, sZ]
  refine wpList_run rfl (.agg Z10) (exec_load_of _ 24 (.tmp 4) rfl ⟨w.heap.size, 8, none⟩ rfl _ (load_part (HS5.out.get (w.heap.size) PA 71 (by simp)) IZ10 8 SPA_8)) ?_
  simp only [Act.put, sT, sS, sZ]
  refine wpList_callF rfl 36 #[.tmp 5] #[24] rfl #[.agg Z10] en36 (HC3.out _) ?_
  rintro v w7 ⟨he, hb⟩
  cases he
  have HS8 := Lib.hid (HS5.out.below hb)
  clear hb HS5
  simp only [Act.put, sT, sS, sZ]
  refine wpList_run rfl _ (exec_alloc_agg _ 24 rfl _ (HZ24 _)) ?_
  simp only [Act.put, sT, sS, sZ]
  have lg11_0 := HS8.out.lt (g6) ZR1 26 (by simp)
  have lg11_1 := HS8.out.lt (w.heap.size) PA 71 (by simp)
  have bg11 := HS8.out.1.size
  have HS10 := Lib.hid (HS8.out.new NN4 24)
  clear HS8
  generalize w7.alloc (.cells NN4 24) = w9 at *
  generalize w7.heap.size = g11 at *
  refine wpList_run0 rfl (exec_store24 _ (.tmp 3) (.tmp 6) rfl (g11) rfl NN2 INN2 rfl NN4 24 (HS10.out.get (g11) NN4 24 (by simp)) SZNN4) ?_
  simp only [Act.put, sT, sS, sZ]
  have HS13 : Hid (Kt w [(g11, NN2, 24), (g6, ZR1, 26), (w.heap.size, PA, 71)] (w9.setRow (g11) NN2)) := Lib.hid (HS10.out.set (g11) NN2 NN4 24 (HS10.out.get (g11) NN4 24 (by simp)) (by omega) (fun p hp => by simp at hp; rcases hp with rfl | rfl | rfl <;> first | exact .inl rfl | exact .inr ⟨by simp, by simp only; omega⟩))
  clear HS10
  generalize w9.setRow (g11) NN2 = w12 at *
  refine wpList_nil ?_
  go_upto_region 2 with fail
  refine wp_cut (fun a' W' => a' = { tmps := #[.agg PA, .pointer (some ⟨w.heap.size, 0, none⟩), .pointer (some ⟨g6, 0, none⟩), .pointer (some ⟨g11, 0, none⟩), .pointer (some ⟨w.heap.size, 8, none⟩), .agg Z10, .agg NN2, .pointer (some ⟨w.heap.size, 0, none⟩), .agg X10, .agg NN2, .agg NN5, .pointer (some ⟨w.heap.size, 4, none⟩), .agg Y10, .agg NN2, .agg NN7, .agg PP10], defers := [] } ∧ Kt w [(g6, PP10, 26)] W') ?_ ?_
  · refine wp_region_any (by kernel_rfl) ?_
    change wpAny _ _ _ _ _ _ _ (World.drew _)
    have HDq14x1 := HS13.out.drew
    clear HS13
    generalize w12.drew = wdq14x2 at *
    refine any_of_F (S := Kt w [(g11, NN2, 24), (g6, ZR1, 26), (w.heap.size, PA, 71)]) (f := 9) _ _ _ _ ?_
    refine tkL 0 (some 7) (.fieldAddr 71 (.tmp 1) 0) (.pointer (some ⟨w.heap.size, 0, none⟩)) (fun o ho w2 hw => exec_field 71 (.tmp 1) 0 ho _ _ rfl w2 (fa71_0 (w.heap.size) w2)) HDq14x1 ?_
    simp only [Act.put, sT, sS, sZ]
    refine tkL 1 (some 8) (.load 24 (.tmp 7)) (.agg X10) (fun o ho w2 hw => exec_load_of _ 24 (.tmp 7) ho ⟨w.heap.size, 0, none⟩ rfl _ (load_part (hw.get (w.heap.size) PA 71 (by simp)) IX10 0 SPA_0)) HDq14x1 ?_
    simp only [Act.put, sT, sS, sZ]
    refine tkL 2 (some 9) (.load 24 (.tmp 3)) (.agg NN2) (fun o ho w2 hw => exec_load_of _ 24 (.tmp 3) ho ⟨g11, 0, none⟩ rfl _ (loadA24 INN2 (hw.get (g11) NN2 24 (by simp)))) HDq14x1 ?_
    simp only [Act.put, sT, sS, sZ]
    refine tkL 4 (some 11) (.fieldAddr 71 (.tmp 1) 1) (.pointer (some ⟨w.heap.size, 4, none⟩)) (fun o ho w2 hw => exec_field 71 (.tmp 1) 1 ho _ _ rfl w2 (fa71_1 (w.heap.size) w2)) HDq14x1 ?_
    simp only [Act.put, sT, sS, sZ]
    refine tkL 5 (some 12) (.load 24 (.tmp 11)) (.agg Y10) (fun o ho w2 hw => exec_load_of _ 24 (.tmp 11) ho ⟨w.heap.size, 4, none⟩ rfl _ (load_part (hw.get (w.heap.size) PA 71 (by simp)) IY10 4 SPA_4)) HDq14x1 ?_
    simp only [Act.put, sT, sS, sZ]
    refine tkL 6 (some 13) (.load 24 (.tmp 3)) (.agg NN2) (fun o ho w2 hw => exec_load_of _ 24 (.tmp 3) ho ⟨g11, 0, none⟩ rfl _ (loadA24 INN2 (hw.get (g11) NN2 24 (by simp)))) HDq14x1 ?_
    simp only [Act.put, sT, sS, sZ]
    refine rdy [3] (rcl (some 10) 34 #[.tmp 8, .tmp 9] #[24, 24] #[.agg X10, .agg NN2] en34 _ (HC6.out _) ?_ ReadyF.nil)
    rintro v wq14x11 ⟨he, hb⟩
    cases he
    have Hq14x12 := HDq14x1.below hb
    clear hb
    refine ⟨Hq14x12, ?_⟩
    simp only [Act.put, sT, sS, sZ]
    refine rdy [7] (rcl (some 14) 34 #[.tmp 12, .tmp 13] #[24, 24] #[.agg Y10, .agg NN2] en34 _ (HC8.out _) ?_ ReadyF.nil)
    rintro v wq14x13 ⟨he, hb⟩
    cases he
    have Hq14x14 := Hq14x12.below hb
    clear hb
    refine ⟨Hq14x14, ?_⟩
    simp only [Act.put, sT, sS, sZ]
    refine tkL 8 (some 15) (.build 26 #[(0, .tmp 10), (1, .tmp 14)]) (.agg PP10) (fun o ho w2 hw => exec_buildN _ 26 #[(0, .tmp 10), (1, .tmp 14)] ho #[(0, .agg NN5), (1, .agg NN7)] (by simp [Act.eval]) _ (BF9 _)) Hq14x14 ?_
    simp only [Act.put, sT, sS, sZ]
    refine rdy [9] (ReadyF.last (.store 26 (.tmp 2) (.tmp 15)) rfl (fun o ho => exec_storeT26 wq14x13 (.tmp 2) (.tmp 15) ho (g6) rfl PP10 IPP10 rfl ZR1 26 (Hq14x14.get (g6) ZR1 26 (by simp)) SZZR1) ?_ ReadyF.nil)
    refine any_doneF (by kernel_rfl) ?_ _
    have Hq14x15 : Kt w [(g11, NN2, 24), (g6, PP10, 26), (w.heap.size, PA, 71)] (wq14x13.setRow (g6) PP10) := Hq14x14.set (g6) PP10 ZR1 26 (Hq14x14.get (g6) ZR1 26 (by simp)) (by omega) (fun p hp => by simp at hp; rcases hp with rfl | rfl | rfl <;> first | exact .inl rfl | exact .inr ⟨by simp, by simp only; omega⟩)
    refine nrm_intro ⟨rfl, Hq14x15.sub (fun p hp => by simp at hp; subst hp; simp)⟩
  rintro a' w15 ⟨rfl, hk⟩
  have HS16 := Lib.hid hk
  clear hk HS13
  go_wp2
  exact bodyPost_ret (results_cell rfl _ _ _ ⟨g6, 0, none⟩ rfl _ (loadT26 IPP10 (HS16.out.get (g6) PP10 26 (by simp)))) rfl ⟨rfl, HS16.out.1⟩
end Go.Proofs.YtgbliacncahooaaDoor
