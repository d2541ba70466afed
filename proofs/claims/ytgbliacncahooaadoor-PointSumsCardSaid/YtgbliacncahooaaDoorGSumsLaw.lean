/- The law PointSums walked: it returns true at any numbers, and no memory that was there is changed. No condition but that the numbers stand in memory. -/
import Derived.Test.YtgbliacncahooaaDoorGAdd
import Derived.Test.YtgbliacncahooaaDoorGMuA
import Derived.Test.YtgbliacncahooaaDoorGPts
import Derived.Test.YtgbliacncahooaaDoorGRBytesP
namespace Go.Proofs.YtgbliacncahooaaDoor
open Go.RowKit Go.Shelf
set_option linter.unusedVariables false
set_option linter.unusedSimpArgs false
set_option maxRecDepth 100000 in
set_option maxHeartbeats 2000000 in
theorem sums_any (a b ta tb k : Nat) (Wa : a < 18446744073709551616) (Wb : b < 18446744073709551616) (Wta : ta < 256) (Wtb : tb < 256) (hk : k < 115792089237316195423570985008687907853269984665640564039457584007913129639936) (w : World) (hG0 : Glob w) :
    Calls Tryd.prog 4 #[.int .u64 (a : Int), .int .u64 (b : Int), .int .u8 (ta : Int), .int .u8 (tb : Int), .agg (num k)] w fun e w' => e = .returned (.bool true) ∧ Below w.heap.size w w' := by
  have HG := Lib.hid hG0
  have HC1 := Lib.hid (some_any a ta Wa Wta)
  have HC5 := Lib.hid (some_any b tb Wb Wtb)
  have HC10 : Hid (∀ w, Glob w → _) := Lib.hid (add_any (someN a ta) (someN b tb) (someN_on a ta) (someN_on b tb))
  try dsimp only at HC10
  have HC14 := Lib.hid (radd_pts (someN a ta) (someN b tb) (someN_on a ta) (someN_on b tb))
  try dsimp only at HC14
  have HC15 : Hid (∀ w, Glob w → _) := Lib.hid (mul_pt (k) (someN a ta) hk (someN_on a ta))
  try dsimp only at HC15
  have HC19 := Lib.hid (rmul_pt (k) (someN a ta) hk (someN_on a ta))
  try dsimp only at HC19
  have HC20 := Lib.hid (bytes_pt ((someN a ta).1) ((someN a ta).2) (pp_lt (onN_lt (someN_on a ta)).1) (onN_lt (someN_on a ta)).2)
  have HC21 := Lib.hid (rbytes_pt ((someN a ta).1) ((someN a ta).2) (pp_lt (onN_lt (someN_on a ta)).1) (onN_lt (someN_on a ta)).2)
  have HC22 : Hid (∀ w, Glob w → _) := Lib.hid (on_pt ((someN a ta).1) ((someN a ta).2) (someN_on a ta))
  have HC23 : Hid (∀ w, Glob w → _) := Lib.hid (awake_any)
  obtain ⟨Kx, hKx⟩ : ∃ zz9, Hid (zz9 = num (k)) := ⟨_, Lib.hid rfl⟩
  have IKx : IsNum Kx := by rw [hKx.out]; exact isNum _
  obtain ⟨NN2, hNN2⟩ : ∃ zz9, Hid (zz9 = num ((someN a ta).1)) := ⟨_, Lib.hid rfl⟩
  have INN2 : IsNum NN2 := by rw [hNN2.out]; exact isNum _
  obtain ⟨NN3, hNN3⟩ : ∃ zz9, Hid (zz9 = num ((someN a ta).2)) := ⟨_, Lib.hid rfl⟩
  have INN3 : IsNum NN3 := by rw [hNN3.out]; exact isNum _
  obtain ⟨PP4, hPP4⟩ : ∃ zz9, Hid (zz9 = NN2 ++ NN3) := ⟨_, Lib.hid rfl⟩
  have IPP4 : IsRw 8 PP4 := by rw [hPP4.out]; exact rw_app (isRw4 INN2) (isRw4 INN3)
  have SPP4_0 : Part PP4 0 NN2 := by rw [hPP4.out]; exact part_left 0 (part_all NN2) NN3
  have SPP4_4 : Part PP4 4 NN3 := by rw [hPP4.out]; exact part_right (NN2) NN3 4 (by simp [INN2.size])
  obtain ⟨NN6, hNN6⟩ : ∃ zz9, Hid (zz9 = num ((someN b tb).1)) := ⟨_, Lib.hid rfl⟩
  have INN6 : IsNum NN6 := by rw [hNN6.out]; exact isNum _
  obtain ⟨NN7, hNN7⟩ : ∃ zz9, Hid (zz9 = num ((someN b tb).2)) := ⟨_, Lib.hid rfl⟩
  have INN7 : IsNum NN7 := by rw [hNN7.out]; exact isNum _
  obtain ⟨PP8, hPP8⟩ : ∃ zz9, Hid (zz9 = NN6 ++ NN7) := ⟨_, Lib.hid rfl⟩
  have IPP8 : IsRw 8 PP8 := by rw [hPP8.out]; exact rw_app (isRw4 INN6) (isRw4 INN7)
  have SPP8_0 : Part PP8 0 NN6 := by rw [hPP8.out]; exact part_left 0 (part_all NN6) NN7
  have SPP8_4 : Part PP8 4 NN7 := by rw [hPP8.out]; exact part_right (NN6) NN7 4 (by simp [INN6.size])
  obtain ⟨ZR9, hZR9⟩ : ∃ zz9, Hid (zz9 = (rowOf .u64 8 (fun _ => 0)).toArray) := ⟨_, Lib.hid rfl⟩
  have SZZR9 : ZR9.size = 8 := by rw [hZR9.out]; rfl
  obtain ⟨NN11, hNN11⟩ : ∃ zz9, Hid (zz9 = num ((addN (someN a ta) (someN b tb)).1)) := ⟨_, Lib.hid rfl⟩
  have INN11 : IsNum NN11 := by rw [hNN11.out]; exact isNum _
  obtain ⟨NN12, hNN12⟩ : ∃ zz9, Hid (zz9 = num ((addN (someN a ta) (someN b tb)).2)) := ⟨_, Lib.hid rfl⟩
  have INN12 : IsNum NN12 := by rw [hNN12.out]; exact isNum _
  obtain ⟨PP13, hPP13⟩ : ∃ zz9, Hid (zz9 = NN11 ++ NN12) := ⟨_, Lib.hid rfl⟩
  have IPP13 : IsRw 8 PP13 := by rw [hPP13.out]; exact rw_app (isRw4 INN11) (isRw4 INN12)
  have SPP13_0 : Part PP13 0 NN11 := by rw [hPP13.out]; exact part_left 0 (part_all NN11) NN12
  have SPP13_4 : Part PP13 4 NN12 := by rw [hPP13.out]; exact part_right (NN11) NN12 4 (by simp [INN11.size])
  obtain ⟨NN16, hNN16⟩ : ∃ zz9, Hid (zz9 = num ((mulN (k) (someN a ta)).1)) := ⟨_, Lib.hid rfl⟩
  have INN16 : IsNum NN16 := by rw [hNN16.out]; exact isNum _
  obtain ⟨NN17, hNN17⟩ : ∃ zz9, Hid (zz9 = num ((mulN (k) (someN a ta)).2)) := ⟨_, Lib.hid rfl⟩
  have INN17 : IsNum NN17 := by rw [hNN17.out]; exact isNum _
  obtain ⟨PP18, hPP18⟩ : ∃ zz9, Hid (zz9 = NN16 ++ NN17) := ⟨_, Lib.hid rfl⟩
  have IPP18 : IsRw 8 PP18 := by rw [hPP18.out]; exact rw_app (isRw4 INN16) (isRw4 INN17)
  have SPP18_0 : Part PP18 0 NN16 := by rw [hPP18.out]; exact part_left 0 (part_all NN16) NN17
  have SPP18_4 : Part PP18 4 NN17 := by rw [hPP18.out]; exact part_right (NN16) NN17 4 (by simp [INN16.size])
  have HZ26 : ∀ w, (zeroValue 26).run Tryd.prog w = .ok (.agg ZR9) w := by rw [hZR9.out]; exact zeroT26
  try simp only [← hKx.out, ← hNN2.out, ← hNN3.out, ← hNN6.out, ← hNN7.out, ← hNN11.out, ← hNN12.out, ← hNN16.out, ← hNN17.out] at HC1 HC5 HC10 HC14 HC15 HC19 HC20 HC21 HC22 HC23 ⊢
  try simp only [← hPP4.out, ← hPP8.out, ← hZR9.out, ← hPP13.out, ← hPP18.out] at HC1 HC5 HC10 HC14 HC15 HC19 HC20 HC21 HC22 HC23 ⊢
  clear hKx hNN2 hNN3 hPP4 hNN6 hNN7 hPP8 hZR9 hNN11 hNN12 hPP13 hNN16 hNN17 hPP18 Wa Wb Wta Wtb hk hG0
  go_enter Tryd.func4, Tryd.ntmps4
  have HS : Hid (Kt w [] w) := Lib.hid (Kt.nil w)
  go_upto_region 0 with fail
  refine wp_region_list ?_
  refine wpList_run rfl _ (exec_box _ 24 (.tmp 4) rfl _ rfl (Kx) rfl) ?_
  simp only [Act.put, sT, sS, sZ]
  have bg3 := HS.out.1.size
  have HS2 := Lib.hid (HS.out.new Kx 24)
  clear HS
  generalize w.alloc (.cells Kx 24) = w1 at *
  refine wpList_run rfl (.bool false) (exec_assign (.const (.bool false)) rfl _ rfl _) ?_
  simp only [Act.put, sT, sS, sZ]
  refine wpList_nil ?_
  go_upto_region 1 with fail
  refine wp_region_list ?_
  refine wpList_run rfl (.int .u64 (a : Int)) (exec_move (.tmp 0) rfl _ rfl _) ?_
  simp only [Act.put, sT, sS, sZ]
  refine wpList_run rfl (.int .u8 (ta : Int)) (exec_move (.tmp 2) rfl _ rfl _) ?_
  simp only [Act.put, sT, sS, sZ]
  refine wpList_callF rfl 17 #[.tmp 13, .tmp 14] #[22, 5] rfl #[.int .u64 (a : Int), .int .u8 (ta : Int)] en17 (HC1.out _) ?_
  rintro v w4 ⟨he, hb⟩
  cases he
  have HS5 := Lib.hid (HS2.out.below hb)
  clear hb HS2
  simp only [Act.put, sT, sS, sZ]
  refine wpList_run rfl (.int .u64 (b : Int)) (exec_move (.tmp 1) rfl _ rfl _) ?_
  simp only [Act.put, sT, sS, sZ]
  refine wpList_run rfl (.int .u8 (tb : Int)) (exec_move (.tmp 3) rfl _ rfl _) ?_
  simp only [Act.put, sT, sS, sZ]
  refine wpList_callF rfl 17 #[.tmp 16, .tmp 17] #[22, 5] rfl #[.int .u64 (b : Int), .int .u8 (tb : Int)] en17 (HC5.out _) ?_
  rintro v w6 ⟨he, hb⟩
  cases he
  have HS7 := Lib.hid (HS5.out.below hb)
  clear hb HS5
  simp only [Act.put, sT, sS, sZ]
  refine wpList_run rfl _ (exec_alloc_agg _ 26 rfl _ (HZ26 _)) ?_
  simp only [Act.put, sT, sS, sZ]
  have lg10_0 := HS7.out.lt (w.heap.size) Kx 24 (by simp)
  have bg10 := HS7.out.1.size
  have HS9 := Lib.hid (HS7.out.new ZR9 26)
  clear HS7
  generalize w6.alloc (.cells ZR9 26) = w8 at *
  generalize w6.heap.size = g10 at *
  refine wpList_run rfl _ (exec_alloc_agg _ 26 rfl _ (HZ26 _)) ?_
  simp only [Act.put, sT, sS, sZ]
  have lg13_0 := HS9.out.lt (g10) ZR9 26 (by simp)
  have lg13_1 := HS9.out.lt (w.heap.size) Kx 24 (by simp)
  have bg13 := HS9.out.1.size
  have HS12 := Lib.hid (HS9.out.new ZR9 26)
  clear HS9
  generalize w8.alloc (.cells ZR9 26) = w11 at *
  generalize w8.heap.size = g13 at *
  refine wpList_run0 rfl (exec_storeT26 _ (.tmp 11) (.tmp 15) rfl (g10) rfl PP4 IPP4 rfl ZR9 26 (HS12.out.get (g10) ZR9 26 (by simp)) SZZR9) ?_
  simp only [Act.put, sT, sS, sZ]
  have HS15 : Hid (Kt w [(g13, ZR9, 26), (g10, PP4, 26), (w.heap.size, Kx, 24)] (w11.setRow (g10) PP4)) := Lib.hid (HS12.out.set (g10) PP4 ZR9 26 (HS12.out.get (g10) ZR9 26 (by simp)) (by omega) (fun p hp => by simp at hp; rcases hp with rfl | rfl | rfl <;> first | exact .inl rfl | exact .inr ⟨by simp, by simp only; omega⟩))
  clear HS12
  generalize w11.setRow (g10) PP4 = w14 at *
  refine wpList_run0 rfl (exec_storeT26 _ (.tmp 12) (.tmp 18) rfl (g13) rfl PP8 IPP8 rfl ZR9 26 (HS15.out.get (g13) ZR9 26 (by simp)) SZZR9) ?_
  simp only [Act.put, sT, sS, sZ]
  have HS17 : Hid (Kt w [(g13, PP8, 26), (g10, PP4, 26), (w.heap.size, Kx, 24)] (w14.setRow (g13) PP8)) := Lib.hid (HS15.out.set (g13) PP8 ZR9 26 (HS15.out.get (g13) ZR9 26 (by simp)) (by omega) (fun p hp => by simp at hp; rcases hp with rfl | rfl | rfl <;> first | exact .inl rfl | exact .inr ⟨by simp, by simp only; omega⟩))
  clear HS15
  generalize w14.setRow (g13) PP8 = w16 at *
  refine wpList_nil ?_
  go_upto_region 2 with fail
  refine wp_cut (fun a' W' => a' = { tmps := #[.int .u64 (a : Int), .int .u64 (b : Int), .int .u8 (ta : Int), .int .u8 (tb : Int), .agg Kx, undef, undef, undef, undef, .pointer (some ⟨w.heap.size, 0, none⟩), .bool true, .pointer (some ⟨g10, 0, none⟩), .pointer (some ⟨g13, 0, none⟩), .int .u64 (a : Int), .int .u8 (ta : Int), .agg PP4, .int .u64 (b : Int), .int .u8 (tb : Int), .agg PP8, .agg PP4, .agg PP8, .agg PP13, .agg PP4, .agg PP8, .agg PP13, .bool true, .bool true, .agg Kx, .agg PP4, .agg PP18, .agg Kx, .agg PP4, .agg PP18, .bool true, .bool true, .bool true, .agg PP4, .string ⟨(bytesN (encP ((someN a ta).1, (someN a ta).2))).toArray⟩, .agg PP4, .string ⟨(bytesN (encP ((someN a ta).1, (someN a ta).2))).toArray⟩, .bool true, .bool true, .bool true, .agg PP4, .bool true, .bool true, .bool true, .bool true, .bool true], defers := [] } ∧ Kt w [] W') ?_ ?_
  · refine wp_region_any (by kernel_rfl) ?_
    change wpAny _ _ _ _ _ _ _ (World.drew _)
    have HDq18x1 := HS17.out.drew
    clear HS17
    generalize w16.drew = wdq18x2 at *
    refine any_of_F (S := Kt w [(g13, PP8, 26), (g10, PP4, 26), (w.heap.size, Kx, 24)]) (f := 1000) _ _ _ _ ?_
    refine tkG 0 (some 19) (.load 26 (.tmp 11)) none (.agg PP4) (fun o ho w2 hw => exec_load_of _ 26 (.tmp 11) ho ⟨g10, 0, none⟩ rfl _ (loadT26 IPP4 (hw.get (g10) PP4 26 (by simp)))) HDq18x1 ?_
    simp only [Act.put, sT, sS, sZ]
    refine tkG 1 (some 20) (.load 26 (.tmp 12)) none (.agg PP8) (fun o ho w2 hw => exec_load_of _ 26 (.tmp 12) ho ⟨g13, 0, none⟩ rfl _ (loadT26 IPP8 (hw.get (g13) PP8 26 (by simp)))) HDq18x1 ?_
    simp only [Act.put, sT, sS, sZ]
    refine tkG 3 (some 22) (.load 26 (.tmp 11)) none (.agg PP4) (fun o ho w2 hw => exec_load_of _ 26 (.tmp 11) ho ⟨g10, 0, none⟩ rfl _ (loadT26 IPP4 (hw.get (g10) PP4 26 (by simp)))) HDq18x1 ?_
    simp only [Act.put, sT, sS, sZ]
    refine tkG 4 (some 23) (.load 26 (.tmp 12)) none (.agg PP8) (fun o ho w2 hw => exec_load_of _ 26 (.tmp 12) ho ⟨g13, 0, none⟩ rfl _ (loadT26 IPP8 (hw.get (g13) PP8 26 (by simp)))) HDq18x1 ?_
    simp only [Act.put, sT, sS, sZ]
    refine rdy [2] (rcl (some 21) 18 #[.tmp 19, .tmp 20] #[26, 26] #[.agg PP4, .agg PP8] en18 _ (HC10.out _ (HG.out.below HDq18x1.1)) ?_ ReadyF.nil)
    rintro v wq18x11 ⟨he, hb⟩
    cases he
    have Hq18x12 := HDq18x1.below hb
    clear hb
    refine ⟨Hq18x12, ?_⟩
    simp only [Act.put, sT, sS, sZ]
    refine rdy [5] (rcl (some 24) 19 #[.tmp 22, .tmp 23] #[26, 26] #[.agg PP4, .agg PP8] en19 _ (HC14.out _) ?_ ReadyF.nil)
    rintro v wq18x13 ⟨he, hb⟩
    cases he
    have Hq18x14 := Hq18x12.below hb
    clear hb
    refine ⟨Hq18x14, ?_⟩
    simp only [Act.put, sT, sS, sZ]
    refine tkG 6 (some 25) (.binOp .eql 26 (.tmp 21) (.tmp 24) 26) none (.bool true) (fun o ho w2 hw => exec_eqP (.tmp 21) (.tmp 24) ho PP13 IPP13 rfl rfl w2) Hq18x14 ?_
    simp only [Act.put, sT, sS, sZ]
    refine tkG 7 (some 26) (.move (.tmp 25)) none (.bool true) (fun o ho w2 hw => exec_move (.tmp 25) ho _ rfl w2) Hq18x14 ?_
    simp only [Act.put, sT, sS, sZ]
    refine tkG 8 (some 27) (.load 24 (.tmp 9)) (some (7, true)) (.agg Kx) (fun o ho w2 hw => exec_load_of _ 24 (.tmp 9) ho ⟨w.heap.size, 0, none⟩ rfl _ (loadA24 IKx (hw.get (w.heap.size) Kx 24 (by simp)))) Hq18x14 ?_
    simp only [Act.put, sT, sS, sZ]
    refine tkG 9 (some 28) (.load 26 (.tmp 11)) (some (7, true)) (.agg PP4) (fun o ho w2 hw => exec_load_of _ 26 (.tmp 11) ho ⟨g10, 0, none⟩ rfl _ (loadT26 IPP4 (hw.get (g10) PP4 26 (by simp)))) Hq18x14 ?_
    simp only [Act.put, sT, sS, sZ]
    refine tkG 11 (some 30) (.load 24 (.tmp 9)) (some (7, true)) (.agg Kx) (fun o ho w2 hw => exec_load_of _ 24 (.tmp 9) ho ⟨w.heap.size, 0, none⟩ rfl _ (loadA24 IKx (hw.get (w.heap.size) Kx 24 (by simp)))) Hq18x14 ?_
    simp only [Act.put, sT, sS, sZ]
    refine tkG 12 (some 31) (.load 26 (.tmp 11)) (some (7, true)) (.agg PP4) (fun o ho w2 hw => exec_load_of _ 26 (.tmp 11) ho ⟨g10, 0, none⟩ rfl _ (loadT26 IPP4 (hw.get (g10) PP4 26 (by simp)))) Hq18x14 ?_
    simp only [Act.put, sT, sS, sZ]
    refine rdy [10] (rclG (some 29) 20 #[.tmp 27, .tmp 28] #[24, 26] (some (7, true)) #[.agg Kx, .agg PP4] en20 _ (HC15.out _ (HG.out.below Hq18x14.1)) ?_ ReadyF.nil)
    rintro v wq18x15 ⟨he, hb⟩
    cases he
    have Hq18x16 := Hq18x14.below hb
    clear hb
    refine ⟨Hq18x16, ?_⟩
    simp only [Act.put, sT, sS, sZ]
    refine rdy [13] (rclG (some 32) 21 #[.tmp 30, .tmp 31] #[24, 26] (some (7, true)) #[.agg Kx, .agg PP4] en21 _ (HC19.out _) ?_ ReadyF.nil)
    rintro v wq18x17 ⟨he, hb⟩
    cases he
    have Hq18x18 := Hq18x16.below hb
    clear hb
    refine ⟨Hq18x18, ?_⟩
    simp only [Act.put, sT, sS, sZ]
    refine tkG 14 (some 33) (.binOp .eql 26 (.tmp 29) (.tmp 32) 26) (some (7, true)) (.bool true) (fun o ho w2 hw => exec_eqP (.tmp 29) (.tmp 32) ho PP18 IPP18 rfl rfl w2) Hq18x18 ?_
    simp only [Act.put, sT, sS, sZ]
    refine tkG 15 (some 34) (.pick (.tmp 26) (.tmp 33) (.const (.bool false))) none (.bool true) (fun o ho w2 hw => exec_pickt (.tmp 26) (.tmp 33) (.const (.bool false)) ho rfl _ rfl w2) Hq18x18 ?_
    simp only [Act.put, sT, sS, sZ]
    refine tkG 16 (some 35) (.move (.tmp 34)) none (.bool true) (fun o ho w2 hw => exec_move (.tmp 34) ho _ rfl w2) Hq18x18 ?_
    simp only [Act.put, sT, sS, sZ]
    refine tkG 17 (some 36) (.load 26 (.tmp 11)) (some (16, true)) (.agg PP4) (fun o ho w2 hw => exec_load_of _ 26 (.tmp 11) ho ⟨g10, 0, none⟩ rfl _ (loadT26 IPP4 (hw.get (g10) PP4 26 (by simp)))) Hq18x18 ?_
    simp only [Act.put, sT, sS, sZ]
    refine tkG 19 (some 38) (.load 26 (.tmp 11)) (some (16, true)) (.agg PP4) (fun o ho w2 hw => exec_load_of _ 26 (.tmp 11) ho ⟨g10, 0, none⟩ rfl _ (loadT26 IPP4 (hw.get (g10) PP4 26 (by simp)))) Hq18x18 ?_
    simp only [Act.put, sT, sS, sZ]
    refine rdy [18] (rclG (some 37) 22 #[.tmp 36] #[26] (some (16, true)) #[.agg PP4] en22 _ (HC20.out _) ?_ ReadyF.nil)
    rintro v wq18x19 ⟨he, hb⟩
    cases he
    have Hq18x20 := Hq18x18.below hb
    clear hb
    refine ⟨Hq18x20, ?_⟩
    simp only [Act.put, sT, sS, sZ]
    refine rdy [20] (rclG (some 39) 23 #[.tmp 38] #[26] (some (16, true)) #[.agg PP4] en23 _ (HC21.out _) ?_ ReadyF.nil)
    rintro v wq18x21 ⟨he, hb⟩
    cases he
    have Hq18x22 := Hq18x20.below hb
    clear hb
    refine ⟨Hq18x22, ?_⟩
    simp only [Act.put, sT, sS, sZ]
    refine tkG 21 (some 40) (.binOp .eql 9 (.tmp 37) (.tmp 39) 9) (some (16, true)) (.bool true) (fun o ho w2 hw => exec_eq9_same (.tmp 37) (.tmp 39) ho ⟨(bytesN (encP ((someN a ta).1, (someN a ta).2))).toArray⟩ rfl rfl w2) Hq18x22 ?_
    simp only [Act.put, sT, sS, sZ]
    refine tkG 22 (some 41) (.pick (.tmp 35) (.tmp 40) (.const (.bool false))) none (.bool true) (fun o ho w2 hw => exec_pickt (.tmp 35) (.tmp 40) (.const (.bool false)) ho rfl _ rfl w2) Hq18x22 ?_
    simp only [Act.put, sT, sS, sZ]
    refine tkG 23 (some 42) (.move (.tmp 41)) none (.bool true) (fun o ho w2 hw => exec_move (.tmp 41) ho _ rfl w2) Hq18x22 ?_
    simp only [Act.put, sT, sS, sZ]
    refine tkG 24 (some 43) (.load 26 (.tmp 11)) (some (23, true)) (.agg PP4) (fun o ho w2 hw => exec_load_of _ 26 (.tmp 11) ho ⟨g10, 0, none⟩ rfl _ (loadT26 IPP4 (hw.get (g10) PP4 26 (by simp)))) Hq18x22 ?_
    simp only [Act.put, sT, sS, sZ]
    refine rdy [25] (rclG (some 44) 13 #[.tmp 43] #[26] (some (23, true)) #[.agg PP4] en13 _ (HC22.out _ (HG.out.below Hq18x22.1)) ?_ ReadyF.nil)
    rintro v wq18x23 ⟨he, hb⟩
    cases he
    have Hq18x24 := Hq18x22.below hb
    clear hb
    refine ⟨Hq18x24, ?_⟩
    simp only [Act.put, sT, sS, sZ]
    refine tkG 26 (some 45) (.pick (.tmp 42) (.tmp 44) (.const (.bool false))) none (.bool true) (fun o ho w2 hw => exec_pickt (.tmp 42) (.tmp 44) (.const (.bool false)) ho rfl _ rfl w2) Hq18x24 ?_
    simp only [Act.put, sT, sS, sZ]
    refine tkG 27 (some 46) (.move (.tmp 45)) none (.bool true) (fun o ho w2 hw => exec_move (.tmp 45) ho _ rfl w2) Hq18x24 ?_
    simp only [Act.put, sT, sS, sZ]
    refine rdy [28] (rclG (some 47) 10 #[] #[] (some (27, true)) #[] en10 _ (HC23.out _ (HG.out.below Hq18x24.1)) ?_ ReadyF.nil)
    rintro v wq18x25 ⟨he, hb⟩
    cases he
    have Hq18x26 := Hq18x24.below hb
    clear hb
    refine ⟨Hq18x26, ?_⟩
    simp only [Act.put, sT, sS, sZ]
    refine tkG 29 (some 48) (.pick (.tmp 46) (.tmp 47) (.const (.bool false))) none (.bool true) (fun o ho w2 hw => exec_pickt (.tmp 46) (.tmp 47) (.const (.bool false)) ho rfl _ rfl w2) Hq18x26 ?_
    simp only [Act.put, sT, sS, sZ]
    refine tkG 30 (some 10) (.assign (.tmp 48)) none (.bool true) (fun o ho w2 hw => exec_assign (.tmp 48) ho _ rfl w2) Hq18x26 ?_
    simp only [Act.put, sT, sS, sZ]
    refine AnyF.done (by kernel_rfl) ?_ _
    refine nrm_intro ⟨rfl, Hq18x26.sub (fun p hp => by cases hp)⟩
  rintro a' w19 ⟨rfl, hk⟩
  have HS20 := Lib.hid hk
  clear hk HS17
  go_wp2
  go_ret
  exact ⟨rfl, HS20.out.1⟩
end Go.Proofs.YtgbliacncahooaaDoor
