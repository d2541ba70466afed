/- Sums of points of the document. No condition but that both are points. -/
import Derived.Test.YtgbliacncahooaaDoorGMathA
import Derived.Test.YtgbliacncahooaaDoorGOvA
import Derived.Test.YtgbliacncahooaaDoorGRPlus
namespace Go.Proofs.YtgbliacncahooaaDoor
open Go.RowKit Go.Shelf
set_option linter.unusedVariables false
set_option linter.unusedSimpArgs false
set_option maxRecDepth 100000 in
set_option maxHeartbeats 2000000 in
theorem radd_pts (p q : Nat × Nat) (hp : onN p) (hq : onN q) (w : World) :
    Calls Tryd.prog 19 #[.agg (num p.1 ++ num p.2), .agg (num q.1 ++ num q.2)] w fun e w' => e = .returned (.agg (num (addN p q).1 ++ num (addN p q).2)) ∧ Below w.heap.size w w' := by
  rw [← add_flat hp hq]
  simp only [flatN, plusN, plusD]
  have HC8 := Lib.hid (rd_any)
  have HC14 := Lib.hid (rplus_any (p.1) (p.2) (1) (q.1) (q.2) (1) (dN) (pp_lt hp.1) (pp_lt hp.2.1) (by decide) (pp_lt hq.1) (pp_lt hq.2.1) (by decide) dN_b4)
  have HC18 := Lib.hid (rflat_any (mulF (mulF (mulF (1) (1)) (subF (mulF (mulF (1) (1)) (mulF (1) (1))) (mulF (dN) (mulF (mulF (p.1) (q.1)) (mulF (p.2) (q.2)))))) (subF (subF (mulF (addF (p.1) (p.2)) (addF (q.1) (q.2))) (mulF (p.1) (q.1))) (mulF (p.2) (q.2)))) (mulF (mulF (mulF (1) (1)) (addF (mulF (mulF (1) (1)) (mulF (1) (1))) (mulF (dN) (mulF (mulF (p.1) (q.1)) (mulF (p.2) (q.2)))))) (addF (mulF (p.1) (q.1)) (mulF (p.2) (q.2)))) (mulF (subF (mulF (mulF (1) (1)) (mulF (1) (1))) (mulF (dN) (mulF (mulF (p.1) (q.1)) (mulF (p.2) (q.2))))) (addF (mulF (mulF (1) (1)) (mulF (1) (1))) (mulF (dN) (mulF (mulF (p.1) (q.1)) (mulF (p.2) (q.2)))))) (pp_lt (mulF_lt _ _)) (pp_lt (mulF_lt _ _)) (pp_lt (mulF_lt _ _)))
  obtain ⟨Px, hPx⟩ : ∃ zz9, Hid (zz9 = num (p.1)) := ⟨_, Lib.hid rfl⟩
  have IPx : IsNum Px := by rw [hPx.out]; exact isNum _
  obtain ⟨Py, hPy⟩ : ∃ zz9, Hid (zz9 = num (p.2)) := ⟨_, Lib.hid rfl⟩
  have IPy : IsNum Py := by rw [hPy.out]; exact isNum _
  obtain ⟨Pa, hPa⟩ : ∃ zz9, Hid (zz9 = Px ++ Py) := ⟨_, Lib.hid rfl⟩
  have IPa : IsRw 8 Pa := by rw [hPa.out]; exact rw_app (isRw4 IPx) (isRw4 IPy)
  have SPa_0 : Part Pa 0 Px := by rw [hPa.out]; exact part_left 0 (part_all Px) Py
  have SPa_4 : Part Pa 4 Py := by rw [hPa.out]; exact part_right (Px) Py 4 (by simp [IPx.size])
  obtain ⟨Qx, hQx⟩ : ∃ zz9, Hid (zz9 = num (q.1)) := ⟨_, Lib.hid rfl⟩
  have IQx : IsNum Qx := by rw [hQx.out]; exact isNum _
  obtain ⟨Qy, hQy⟩ : ∃ zz9, Hid (zz9 = num (q.2)) := ⟨_, Lib.hid rfl⟩
  have IQy : IsNum Qy := by rw [hQy.out]; exact isNum _
  obtain ⟨Qa, hQa⟩ : ∃ zz9, Hid (zz9 = Qx ++ Qy) := ⟨_, Lib.hid rfl⟩
  have IQa : IsRw 8 Qa := by rw [hQa.out]; exact rw_app (isRw4 IQx) (isRw4 IQy)
  have SQa_0 : Part Qa 0 Qx := by rw [hQa.out]; exact part_left 0 (part_all Qx) Qy
  have SQa_4 : Part Qa 4 Qy := by rw [hQa.out]; exact part_right (Qx) Qy 4 (by simp [IQx.size])
  obtain ⟨ZR1, hZR1⟩ : ∃ zz9, Hid (zz9 = (rowOf .u64 8 (fun _ => 0)).toArray) := ⟨_, Lib.hid rfl⟩
  have SZZR1 : ZR1.size = 8 := by rw [hZR1.out]; rfl
  obtain ⟨NN3, hNN3⟩ : ∃ zz9, Hid (zz9 = num (1)) := ⟨_, Lib.hid rfl⟩
  have INN3 : IsNum NN3 := by rw [hNN3.out]; exact isNum _
  obtain ⟨PP5, hPP5⟩ : ∃ zz9, Hid (zz9 = Px ++ Py ++ NN3) := ⟨_, Lib.hid rfl⟩
  have IPP5 : IsRw 12 PP5 := by rw [hPP5.out]; exact rw_app (rw_app (isRw4 IPx) (isRw4 IPy)) (isRw4 INN3)
  have SPP5_0 : Part PP5 0 Px := by rw [hPP5.out]; exact part_left 0 (part_left 0 (part_all Px) Py) NN3
  have SPP5_4 : Part PP5 4 Py := by rw [hPP5.out]; exact part_left 4 (part_right (Px) Py 4 (by simp [IPx.size])) NN3
  have SPP5_8 : Part PP5 8 NN3 := by rw [hPP5.out]; exact part_right (Px ++ Py) NN3 8 (by simp [IPx.size, IPy.size])
  obtain ⟨PP7, hPP7⟩ : ∃ zz9, Hid (zz9 = Qx ++ Qy ++ NN3) := ⟨_, Lib.hid rfl⟩
  have IPP7 : IsRw 12 PP7 := by rw [hPP7.out]; exact rw_app (rw_app (isRw4 IQx) (isRw4 IQy)) (isRw4 INN3)
  have SPP7_0 : Part PP7 0 Qx := by rw [hPP7.out]; exact part_left 0 (part_left 0 (part_all Qx) Qy) NN3
  have SPP7_4 : Part PP7 4 Qy := by rw [hPP7.out]; exact part_left 4 (part_right (Qx) Qy 4 (by simp [IQx.size])) NN3
  have SPP7_8 : Part PP7 8 NN3 := by rw [hPP7.out]; exact part_right (Qx ++ Qy) NN3 8 (by simp [IQx.size, IQy.size])
  obtain ⟨NN9, hNN9⟩ : ∃ zz9, Hid (zz9 = num (dN)) := ⟨_, Lib.hid rfl⟩
  have INN9 : IsNum NN9 := by rw [hNN9.out]; exact isNum _
  obtain ⟨NN10, hNN10⟩ : ∃ zz9, Hid (zz9 = num (mulF (mulF (mulF (1) (1)) (subF (mulF (mulF (1) (1)) (mulF (1) (1))) (mulF (dN) (mulF (mulF (p.1) (q.1)) (mulF (p.2) (q.2)))))) (subF (subF (mulF (addF (p.1) (p.2)) (addF (q.1) (q.2))) (mulF (p.1) (q.1))) (mulF (p.2) (q.2))))) := ⟨_, Lib.hid rfl⟩
  have INN10 : IsNum NN10 := by rw [hNN10.out]; exact isNum _
  obtain ⟨NN11, hNN11⟩ : ∃ zz9, Hid (zz9 = num (mulF (mulF (mulF (1) (1)) (addF (mulF (mulF (1) (1)) (mulF (1) (1))) (mulF (dN) (mulF (mulF (p.1) (q.1)) (mulF (p.2) (q.2)))))) (addF (mulF (p.1) (q.1)) (mulF (p.2) (q.2))))) := ⟨_, Lib.hid rfl⟩
  have INN11 : IsNum NN11 := by rw [hNN11.out]; exact isNum _
  obtain ⟨NN12, hNN12⟩ : ∃ zz9, Hid (zz9 = num (mulF (subF (mulF (mulF (1) (1)) (mulF (1) (1))) (mulF (dN) (mulF (mulF (p.1) (q.1)) (mulF (p.2) (q.2))))) (addF (mulF (mulF (1) (1)) (mulF (1) (1))) (mulF (dN) (mulF (mulF (p.1) (q.1)) (mulF (p.2) (q.2))))))) := ⟨_, Lib.hid rfl⟩
  have INN12 : IsNum NN12 := by rw [hNN12.out]; exact isNum _
  obtain ⟨PP13, hPP13⟩ : ∃ zz9, Hid (zz9 = NN10 ++ NN11 ++ NN12) := ⟨_, Lib.hid rfl⟩
  have IPP13 : IsRw 12 PP13 := by rw [hPP13.out]; exact rw_app (rw_app (isRw4 INN10) (isRw4 INN11)) (isRw4 INN12)
  have SPP13_0 : Part PP13 0 NN10 := by rw [hPP13.out]; exact part_left 0 (part_left 0 (part_all NN10) NN11) NN12
  have SPP13_4 : Part PP13 4 NN11 := by rw [hPP13.out]; exact part_left 4 (part_right (NN10) NN11 4 (by simp [INN10.size])) NN12
  have SPP13_8 : Part PP13 8 NN12 := by rw [hPP13.out]; exact part_right (NN10 ++ NN11) NN12 8 (by simp [INN10.size, INN11.size])
  obtain ⟨NN15, hNN15⟩ : ∃ zz9, Hid (zz9 = num (mulF (mulF (mulF (mulF (1) (1)) (subF (mulF (mulF (1) (1)) (mulF (1) (1))) (mulF (dN) (mulF (mulF (p.1) (q.1)) (mulF (p.2) (q.2)))))) (subF (subF (mulF (addF (p.1) (p.2)) (addF (q.1) (q.2))) (mulF (p.1) (q.1))) (mulF (p.2) (q.2)))) (invF (mulF (subF (mulF (mulF (1) (1)) (mulF (1) (1))) (mulF (dN) (mulF (mulF (p.1) (q.1)) (mulF (p.2) (q.2))))) (addF (mulF (mulF (1) (1)) (mulF (1) (1))) (mulF (dN) (mulF (mulF (p.1) (q.1)) (mulF (p.2) (q.2))))))))) := ⟨_, Lib.hid rfl⟩
  have INN15 : IsNum NN15 := by rw [hNN15.out]; exact isNum _
  obtain ⟨NN16, hNN16⟩ : ∃ zz9, Hid (zz9 = num (mulF (mulF (mulF (mulF (1) (1)) (addF (mulF (mulF (1) (1)) (mulF (1) (1))) (mulF (dN) (mulF (mulF (p.1) (q.1)) (mulF (p.2) (q.2)))))) (addF (mulF (p.1) (q.1)) (mulF (p.2) (q.2)))) (invF (mulF (subF (mulF (mulF (1) (1)) (mulF (1) (1))) (mulF (dN) (mulF (mulF (p.1) (q.1)) (mulF (p.2) (q.2))))) (addF (mulF (mulF (1) (1)) (mulF (1) (1))) (mulF (dN) (mulF (mulF (p.1) (q.1)) (mulF (p.2) (q.2))))))))) := ⟨_, Lib.hid rfl⟩
  have INN16 : IsNum NN16 := by rw [hNN16.out]; exact isNum _
  obtain ⟨PP17, hPP17⟩ : ∃ zz9, Hid (zz9 = NN15 ++ NN16) := ⟨_, Lib.hid rfl⟩
  have IPP17 : IsRw 8 PP17 := by rw [hPP17.out]; exact rw_app (isRw4 INN15) (isRw4 INN16)
  have SPP17_0 : Part PP17 0 NN15 := by rw [hPP17.out]; exact part_left 0 (part_all NN15) NN16
  have SPP17_4 : Part PP17 4 NN16 := by rw [hPP17.out]; exact part_right (NN15) NN16 4 (by simp [INN15.size])
  have HZ26 : ∀ w, (zeroValue 26).run Tryd.prog w = .ok (.agg ZR1) w := by rw [hZR1.out]; exact zeroT26
  have BF2 : ∀ w, (Instr.build 24 #[(0, .int .u64 1)]).run Tryd.prog w = .ok (.agg NN3) w := by rw [hNN3.out]; exact build_run 1 (by decide)
  have BF4 : ∀ w, (Instr.build 71 #[(0, .agg Px), (1, .agg Py), (2, .agg NN3)]).run Tryd.prog w = .ok (.agg PP5) w := by rw [hPP5.out]; exact bt012 IPx IPy INN3
  have BF6 : ∀ w, (Instr.build 71 #[(0, .agg Qx), (1, .agg Qy), (2, .agg NN3)]).run Tryd.prog w = .ok (.agg PP7) w := by rw [hPP7.out]; exact bt012 IQx IQy INN3
  try simp only [← hPx.out, ← hPy.out, ← hQx.out, ← hQy.out, ← hNN3.out, ← hNN9.out, ← hNN10.out, ← hNN11.out, ← hNN12.out, ← hNN15.out, ← hNN16.out] at HC8 HC14 HC18 ⊢
  try simp only [← hPP5.out, ← hPP7.out, ← hPP13.out] at HC8 HC14 HC18 ⊢
  try simp only [← hPa.out, ← hQa.out, ← hZR1.out, ← hPP17.out] at HC8 HC14 HC18 ⊢
  clear hPx hPy hPa hQx hQy hQa hZR1 hNN3 hPP5 hPP7 hNN9 hNN10 hNN11 hNN12 hPP13 hNN15 hNN16 hPP17 hp hq
  go_enter Tryd.func19, Tryd.ntmps19
  have HS : Hid (Kt w [] w) := Lib.hid (Kt.nil w)
  go_upto_region 0 with fail
  refine wp_region_list ?_
  refine wpList_run rfl _ (exec_box _ 26 (.tmp 0) rfl _ rfl (Pa) rfl) ?_
  simp only [Act.put, sT, sS, sZ]
  have bg3 := HS.out.1.size
  have HS2 := Lib.hid (HS.out.new Pa 26)
  clear HS
  generalize w.alloc (.cells Pa 26) = w1 at *
  refine wpList_run rfl _ (exec_box _ 26 (.tmp 1) rfl _ rfl (Qa) rfl) ?_
  simp only [Act.put, sT, sS, sZ]
  have lg6_0 := HS2.out.lt (w.heap.size) Pa 26 (by simp)
  have bg6 := HS2.out.1.size
  have HS5 := Lib.hid (HS2.out.new Qa 26)
  clear HS2
  generalize w1.alloc (.cells Qa 26) = w4 at *
  generalize w1.heap.size = g6 at *
  refine wpList_run rfl _ (exec_alloc_agg _ 26 rfl _ (HZ26 _)) ?_
  simp only [Act.put, sT, sS, sZ]
  have lg9_0 := HS5.out.lt (g6) Qa 26 (by simp)
  have lg9_1 := HS5.out.lt (w.heap.size) Pa 26 (by simp)
  have bg9 := HS5.out.1.size
  have HS8 := Lib.hid (HS5.out.new ZR1 26)
  clear HS5
  generalize w4.alloc (.cells ZR1 26) = w7 at *
  generalize w4.heap.size = g9 at *
  refine wpList_nil ?_
  go_upto_region 1 with fail
  refine wp_cut (fun a' W' => a' = { tmps := #[.agg Pa, .agg Qa, .pointer (some ⟨w.heap.size, 0, none⟩), .pointer (some ⟨g6, 0, none⟩), .pointer (some ⟨g9, 0, none⟩), .pointer (some ⟨w.heap.size, 0, none⟩), .agg Px, .pointer (some ⟨w.heap.size, 4, none⟩), .agg Py, .agg NN3, .agg PP5, .pointer (some ⟨g6, 0, none⟩), .agg Qx, .pointer (some ⟨g6, 4, none⟩), .agg Qy, .agg NN3, .agg PP7, .agg NN9, .agg PP13, .agg PP17], defers := [] } ∧ Kt w [(g9, PP17, 26)] W') ?_ ?_
  · refine wp_region_any (by kernel_rfl) ?_
    change wpAny _ _ _ _ _ _ _ (World.drew _)
    have HDq10x1 := HS8.out.drew
    clear HS8
    generalize w7.drew = wdq10x2 at *
    refine any_of_F (S := Kt w [(g9, ZR1, 26), (g6, Qa, 26), (w.heap.size, Pa, 26)]) (f := 15) _ _ _ _ ?_
    refine tkL 0 (some 5) (.fieldAddr 26 (.tmp 2) 0) (.pointer (some ⟨w.heap.size, 0, none⟩)) (fun o ho w2 hw => exec_field 26 (.tmp 2) 0 ho _ _ rfl w2 (fa26_0 (w.heap.size) w2)) HDq10x1 ?_
    simp only [Act.put, sT, sS, sZ]
    refine tkL 1 (some 6) (.load 24 (.tmp 5)) (.agg Px) (fun o ho w2 hw => exec_load_of _ 24 (.tmp 5) ho ⟨w.heap.size, 0, none⟩ rfl _ (load_part (hw.get (w.heap.size) Pa 26 (by simp)) IPx 0 SPa_0)) HDq10x1 ?_
    simp only [Act.put, sT, sS, sZ]
    refine tkL 2 (some 7) (.fieldAddr 26 (.tmp 2) 1) (.pointer (some ⟨w.heap.size, 4, none⟩)) (fun o ho w2 hw => exec_field 26 (.tmp 2) 1 ho _ _ rfl w2 (fa26_1 (w.heap.size) w2)) HDq10x1 ?_
    simp only [Act.put, sT, sS, sZ]
    refine tkL 3 (some 8) (.load 24 (.tmp 7)) (.agg Py) (fun o ho w2 hw => exec_load_of _ 24 (.tmp 7) ho ⟨w.heap.size, 4, none⟩ rfl _ (load_part (hw.get (w.heap.size) Pa 26 (by simp)) IPy 4 SPa_4)) HDq10x1 ?_
    simp only [Act.put, sT, sS, sZ]
    refine tkL 4 (some 9) (.build 24 #[(0, .const (.int .u64 1))]) (.agg NN3) (fun o ho w2 hw => exec_buildN _ 24 #[(0, .const (.int .u64 1))] ho #[(0, .int .u64 1)] (by simp [Act.eval]) _ (BF2 _)) HDq10x1 ?_
    simp only [Act.put, sT, sS, sZ]
    refine tkL 5 (some 10) (.build 71 #[(0, .tmp 6), (1, .tmp 8), (2, .tmp 9)]) (.agg PP5) (fun o ho w2 hw => exec_buildN _ 71 #[(0, .tmp 6), (1, .tmp 8), (2, .tmp 9)] ho #[(0, .agg Px), (1, .agg Py), (2, .agg NN3)] (by simp [Act.eval]) _ (BF4 _)) HDq10x1 ?_
    simp only [Act.put, sT, sS, sZ]
    refine tkL 6 (some 11) (.fieldAddr 26 (.tmp 3) 0) (.pointer (some ⟨g6, 0, none⟩)) (fun o ho w2 hw => exec_field 26 (.tmp 3) 0 ho _ _ rfl w2 (fa26_0 (g6) w2)) HDq10x1 ?_
    simp only [Act.put, sT, sS, sZ]
    refine tkL 7 (some 12) (.load 24 (.tmp 11)) (.agg Qx) (fun o ho w2 hw => exec_load_of _ 24 (.tmp 11) ho ⟨g6, 0, none⟩ rfl _ (load_part (hw.get (g6) Qa 26 (by simp)) IQx 0 SQa_0)) HDq10x1 ?_
    simp only [Act.put, sT, sS, sZ]
    refine tkL 8 (some 13) (.fieldAddr 26 (.tmp 3) 1) (.pointer (some ⟨g6, 4, none⟩)) (fun o ho w2 hw => exec_field 26 (.tmp 3) 1 ho _ _ rfl w2 (fa26_1 (g6) w2)) HDq10x1 ?_
    simp only [Act.put, sT, sS, sZ]
    refine tkL 9 (some 14) (.load 24 (.tmp 13)) (.agg Qy) (fun o ho w2 hw => exec_load_of _ 24 (.tmp 13) ho ⟨g6, 4, none⟩ rfl _ (load_part (hw.get (g6) Qa 26 (by simp)) IQy 4 SQa_4)) HDq10x1 ?_
    simp only [Act.put, sT, sS, sZ]
    refine tkL 10 (some 15) (.build 24 #[(0, .const (.int .u64 1))]) (.agg NN3) (fun o ho w2 hw => exec_buildN _ 24 #[(0, .const (.int .u64 1))] ho #[(0, .int .u64 1)] (by simp [Act.eval]) _ (BF2 _)) HDq10x1 ?_
    simp only [Act.put, sT, sS, sZ]
    refine tkL 11 (some 16) (.build 71 #[(0, .tmp 12), (1, .tmp 14), (2, .tmp 15)]) (.agg PP7) (fun o ho w2 hw => exec_buildN _ 71 #[(0, .tmp 12), (1, .tmp 14), (2, .tmp 15)] ho #[(0, .agg Qx), (1, .agg Qy), (2, .agg NN3)] (by simp [Act.eval]) _ (BF6 _)) HDq10x1 ?_
    simp only [Act.put, sT, sS, sZ]
    refine rdy [12] (rcl (some 17) 38 #[] #[] #[] en38 _ (HC8.out _) ?_ ReadyF.nil)
    rintro v wq10x11 ⟨he, hb⟩
    cases he
    have Hq10x12 := HDq10x1.below hb
    clear hb
    refine ⟨Hq10x12, ?_⟩
    simp only [Act.put, sT, sS, sZ]
    refine rdy [13] (rcl (some 18) 47 #[.tmp 10, .tmp 16, .tmp 17] #[71, 71, 24] #[.agg PP5, .agg PP7, .agg NN9] en47 _ (HC14.out _) ?_ ReadyF.nil)
    rintro v wq10x13 ⟨he, hb⟩
    cases he
    have Hq10x14 := Hq10x12.below hb
    clear hb
    refine ⟨Hq10x14, ?_⟩
    simp only [Act.put, sT, sS, sZ]
    refine rdy [14] (rcl (some 19) 46 #[.tmp 18] #[71] #[.agg PP13] en46 _ (HC18.out _) ?_ ReadyF.nil)
    rintro v wq10x15 ⟨he, hb⟩
    cases he
    have Hq10x16 := Hq10x14.below hb
    clear hb
    refine ⟨Hq10x16, ?_⟩
    simp only [Act.put, sT, sS, sZ]
    refine rdy [15] (ReadyF.last (.store 26 (.tmp 4) (.tmp 19)) rfl (fun o ho => exec_storeT26 wq10x15 (.tmp 4) (.tmp 19) ho (g9) rfl PP17 IPP17 rfl ZR1 26 (Hq10x16.get (g9) ZR1 26 (by simp)) SZZR1) ?_ ReadyF.nil)
    refine any_doneF (by kernel_rfl) ?_ _
    have Hq10x17 : Kt w [(g9, PP17, 26), (g6, Qa, 26), (w.heap.size, Pa, 26)] (wq10x15.setRow (g9) PP17) := Hq10x16.set (g9) PP17 ZR1 26 (Hq10x16.get (g9) ZR1 26 (by simp)) (by omega) (fun p hp => by simp at hp; rcases hp with rfl | rfl | rfl <;> first | exact .inl rfl | exact .inr ⟨by simp, by simp only; omega⟩)
    refine nrm_intro ⟨rfl, Hq10x17.sub (fun p hp => by simp at hp; subst hp; simp)⟩
  rintro a' w11 ⟨rfl, hk⟩
  have HS12 := Lib.hid hk
  clear hk HS8
  go_wp2
  exact bodyPost_ret (results_cell rfl _ _ _ ⟨g9, 0, none⟩ rfl _ (loadT26 IPP17 (HS12.out.get (g9) PP17 26 (by simp)))) rfl ⟨rfl, HS12.out.1⟩
end Go.Proofs.YtgbliacncahooaaDoor
