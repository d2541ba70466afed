/- The law PointLaws walked: it returns true at any numbers, and no memory that was there is changed. No condition but that the numbers stand in memory. -/
import Derived.Test.YtgbliacncahooaaDoorGConv8
namespace Go.Proofs.YtgbliacncahooaaDoor
open Go.RowKit Go.Shelf
set_option linter.unusedVariables false
set_option linter.unusedSimpArgs false
set_option maxRecDepth 100000 in
set_option maxHeartbeats 8000000 in
theorem laws_any (a b ta tb k : Nat) (Wa : a < 18446744073709551616) (Wb : b < 18446744073709551616) (Wta : ta < 256) (Wtb : tb < 256) (Wk0 : k < 4294967296) (w : World) (hG0 : Glob w) :
    Calls Tryd.prog 5 #[.int .u64 (a : Int), .int .u64 (b : Int), .int .u8 (ta : Int), .int .u8 (tb : Int), .int .u32 (k : Int)] w fun e w' => e = .returned (.bool true) ∧ Below w.heap.size w w' := by
  have HG := Lib.hid hG0
  obtain ⟨k1, hk10⟩ : ∃ k1, k1 = k + 1 := ⟨_, rfl⟩
  have hk1 := Lib.hid hk10
  have Wk1 : k1 < 18446744073709551616 := by omega
  have Wk : k < 18446744073709551616 := by omega
  have HC5 := Lib.hid (some_any a ta Wa Wta)
  have HC9 := Lib.hid (some_any b tb Wb Wtb)
  have HC14 : Hid (∀ w, Glob w → _) := Lib.hid (add_any (someN a ta) (someN b tb) (someN_on a ta) (someN_on b tb))
  try dsimp only at HC14
  have HC20 := Lib.hid (rsub_any (0) ((someN b tb).1) (by decide) (pp_lt (onN_lt (someN_on b tb)).1))
  rw [show subF 0 (someN b tb).1 = (turnN (someN b tb)).1 from rfl] at HC20
  have HC23 : Hid (∀ w, Glob w → _) := Lib.hid (mul_pt (k) (someN a ta) (lt64 k Wk) (someN_on a ta))
  try dsimp only at HC23
  have HC27 : Hid (∀ w, Glob w → _) := Lib.hid (on_pt ((addN (someN a ta) (someN b tb)).1) ((addN (someN a ta) (someN b tb)).2) (addN_on (someN_on a ta) (someN_on b tb)))
  have HC28 : Hid (∀ w, Glob w → _) := Lib.hid (add_any (someN b tb) (someN a ta) (someN_on b tb) (someN_on a ta))
  try dsimp only at HC28
  rw [addN_comm (someN b tb) (someN a ta)] at HC28
  have HC29 : Hid (∀ w, Glob w → _) := Lib.hid (add_any (addN (someN a ta) (someN b tb)) (turnN (someN b tb)) (addN_on (someN_on a ta) (someN_on b tb)) (turnN_on (someN_on b tb)))
  try dsimp only at HC29
  rw [addN_back (someN_on a ta) (someN_on b tb)] at HC29
  rw [show (turnN (someN b tb)).2 = (someN b tb).2 from rfl] at HC29
  have HC31 := Lib.hid (nought_any)
  have HC32 : Hid (∀ w, Glob w → _) := Lib.hid (add_any (someN a ta) ((0, 1)) (someN_on a ta) (noneN_on))
  try dsimp only at HC32
  rw [addN_none (someN_on a ta)] at HC32
  have HC34 : Hid (∀ w, Glob w → _) := Lib.hid (add_any (mulN (k) (someN a ta)) (someN a ta) (mulN_on (someN_on a ta) (k)) (someN_on a ta))
  try dsimp only at HC34
  have HC38 : Hid (∀ w, Glob w → _) := Lib.hid (mul_pt (k1) (someN a ta) (lt64 k1 Wk1) (someN_on a ta))
  try dsimp only at HC38
  rw [show mulN k1 (someN a ta) = addN (mulN k (someN a ta)) (someN a ta) by rw [hk1.out]; exact mulN_succ (someN_on a ta) k] at HC38
  have HC39 : Hid (∀ w, Glob w → _) := Lib.hid (on_pt ((mulN (k) (someN a ta)).1) ((mulN (k) (someN a ta)).2) (mulN_on (someN_on a ta) (k)))
  have HC40 : Hid (∀ w, Glob w → _) := Lib.hid (mul_pt (0) (someN a ta) (by decide) (someN_on a ta))
  try dsimp only at HC40
  rw [mulN_zero (someN a ta)] at HC40
  have HC41 : Hid (∀ w, Glob w → _) := Lib.hid (awake_any)
  obtain ⟨NN1, hNN1⟩ : ∃ zz9, Hid (zz9 = num (k)) := ⟨_, Lib.hid rfl⟩
  have INN1 : IsNum NN1 := by rw [hNN1.out]; exact isNum _
  obtain ⟨NN2, hNN2⟩ : ∃ zz9, Hid (zz9 = num (k1)) := ⟨_, Lib.hid rfl⟩
  have INN2 : IsNum NN2 := by rw [hNN2.out]; exact isNum _
  obtain ⟨NN3, hNN3⟩ : ∃ zz9, Hid (zz9 = num (0)) := ⟨_, Lib.hid rfl⟩
  have INN3 : IsNum NN3 := by rw [hNN3.out]; exact isNum _
  obtain ⟨NN4, hNN4⟩ : ∃ zz9, Hid (zz9 = num (1)) := ⟨_, Lib.hid rfl⟩
  have INN4 : IsNum NN4 := by rw [hNN4.out]; exact isNum _
  obtain ⟨NN6, hNN6⟩ : ∃ zz9, Hid (zz9 = num ((someN a ta).1)) := ⟨_, Lib.hid rfl⟩
  have INN6 : IsNum NN6 := by rw [hNN6.out]; exact isNum _
  obtain ⟨NN7, hNN7⟩ : ∃ zz9, Hid (zz9 = num ((someN a ta).2)) := ⟨_, Lib.hid rfl⟩
  have INN7 : IsNum NN7 := by rw [hNN7.out]; exact isNum _
  obtain ⟨PP8, hPP8⟩ : ∃ zz9, Hid (zz9 = NN6 ++ NN7) := ⟨_, Lib.hid rfl⟩
  have IPP8 : IsRw 8 PP8 := by rw [hPP8.out]; exact rw_app (isRw4 INN6) (isRw4 INN7)
  have SPP8_0 : Part PP8 0 NN6 := by rw [hPP8.out]; exact part_left 0 (part_all NN6) NN7
  have SPP8_4 : Part PP8 4 NN7 := by rw [hPP8.out]; exact part_right (NN6) NN7 4 (by simp [INN6.size])
  obtain ⟨NN10, hNN10⟩ : ∃ zz9, Hid (zz9 = num ((someN b tb).1)) := ⟨_, Lib.hid rfl⟩
  have INN10 : IsNum NN10 := by rw [hNN10.out]; exact isNum _
  obtain ⟨NN11, hNN11⟩ : ∃ zz9, Hid (zz9 = num ((someN b tb).2)) := ⟨_, Lib.hid rfl⟩
  have INN11 : IsNum NN11 := by rw [hNN11.out]; exact isNum _
  obtain ⟨PP12, hPP12⟩ : ∃ zz9, Hid (zz9 = NN10 ++ NN11) := ⟨_, Lib.hid rfl⟩
  have IPP12 : IsRw 8 PP12 := by rw [hPP12.out]; exact rw_app (isRw4 INN10) (isRw4 INN11)
  have SPP12_0 : Part PP12 0 NN10 := by rw [hPP12.out]; exact part_left 0 (part_all NN10) NN11
  have SPP12_4 : Part PP12 4 NN11 := by rw [hPP12.out]; exact part_right (NN10) NN11 4 (by simp [INN10.size])
  obtain ⟨ZR13, hZR13⟩ : ∃ zz9, Hid (zz9 = (rowOf .u64 8 (fun _ => 0)).toArray) := ⟨_, Lib.hid rfl⟩
  have SZZR13 : ZR13.size = 8 := by rw [hZR13.out]; rfl
  obtain ⟨NN15, hNN15⟩ : ∃ zz9, Hid (zz9 = num ((addN (someN a ta) (someN b tb)).1)) := ⟨_, Lib.hid rfl⟩
  have INN15 : IsNum NN15 := by rw [hNN15.out]; exact isNum _
  obtain ⟨NN16, hNN16⟩ : ∃ zz9, Hid (zz9 = num ((addN (someN a ta) (someN b tb)).2)) := ⟨_, Lib.hid rfl⟩
  have INN16 : IsNum NN16 := by rw [hNN16.out]; exact isNum _
  obtain ⟨PP17, hPP17⟩ : ∃ zz9, Hid (zz9 = NN15 ++ NN16) := ⟨_, Lib.hid rfl⟩
  have IPP17 : IsRw 8 PP17 := by rw [hPP17.out]; exact rw_app (isRw4 INN15) (isRw4 INN16)
  have SPP17_0 : Part PP17 0 NN15 := by rw [hPP17.out]; exact part_left 0 (part_all NN15) NN16
  have SPP17_4 : Part PP17 4 NN16 := by rw [hPP17.out]; exact part_right (NN15) NN16 4 (by simp [INN15.size])
  obtain ⟨NN19, hNN19⟩ : ∃ zz9, Hid (zz9 = num ((turnN (someN b tb)).1)) := ⟨_, Lib.hid rfl⟩
  have INN19 : IsNum NN19 := by rw [hNN19.out]; exact isNum _
  obtain ⟨PP21, hPP21⟩ : ∃ zz9, Hid (zz9 = NN19 ++ NN11) := ⟨_, Lib.hid rfl⟩
  have IPP21 : IsRw 8 PP21 := by rw [hPP21.out]; exact rw_app (isRw4 INN19) (isRw4 INN11)
  have SPP21_0 : Part PP21 0 NN19 := by rw [hPP21.out]; exact part_left 0 (part_all NN19) NN11
  have SPP21_4 : Part PP21 4 NN11 := by rw [hPP21.out]; exact part_right (NN19) NN11 4 (by simp [INN19.size])
  obtain ⟨NN24, hNN24⟩ : ∃ zz9, Hid (zz9 = num ((mulN (k) (someN a ta)).1)) := ⟨_, Lib.hid rfl⟩
  have INN24 : IsNum NN24 := by rw [hNN24.out]; exact isNum _
  obtain ⟨NN25, hNN25⟩ : ∃ zz9, Hid (zz9 = num ((mulN (k) (someN a ta)).2)) := ⟨_, Lib.hid rfl⟩
  have INN25 : IsNum NN25 := by rw [hNN25.out]; exact isNum _
  obtain ⟨PP26, hPP26⟩ : ∃ zz9, Hid (zz9 = NN24 ++ NN25) := ⟨_, Lib.hid rfl⟩
  have IPP26 : IsRw 8 PP26 := by rw [hPP26.out]; exact rw_app (isRw4 INN24) (isRw4 INN25)
  have SPP26_0 : Part PP26 0 NN24 := by rw [hPP26.out]; exact part_left 0 (part_all NN24) NN25
  have SPP26_4 : Part PP26 4 NN25 := by rw [hPP26.out]; exact part_right (NN24) NN25 4 (by simp [INN24.size])
  obtain ⟨PP30, hPP30⟩ : ∃ zz9, Hid (zz9 = NN3 ++ NN4) := ⟨_, Lib.hid rfl⟩
  have IPP30 : IsRw 8 PP30 := by rw [hPP30.out]; exact rw_app (isRw4 INN3) (isRw4 INN4)
  have SPP30_0 : Part PP30 0 NN3 := by rw [hPP30.out]; exact part_left 0 (part_all NN3) NN4
  have SPP30_4 : Part PP30 4 NN4 := by rw [hPP30.out]; exact part_right (NN3) NN4 4 (by simp [INN3.size])
  obtain ⟨NN35, hNN35⟩ : ∃ zz9, Hid (zz9 = num ((addN (mulN (k) (someN a ta)) (someN a ta)).1)) := ⟨_, Lib.hid rfl⟩
  have INN35 : IsNum NN35 := by rw [hNN35.out]; exact isNum _
  obtain ⟨NN36, hNN36⟩ : ∃ zz9, Hid (zz9 = num ((addN (mulN (k) (someN a ta)) (someN a ta)).2)) := ⟨_, Lib.hid rfl⟩
  have INN36 : IsNum NN36 := by rw [hNN36.out]; exact isNum _
  obtain ⟨PP37, hPP37⟩ : ∃ zz9, Hid (zz9 = NN35 ++ NN36) := ⟨_, Lib.hid rfl⟩
  have IPP37 : IsRw 8 PP37 := by rw [hPP37.out]; exact rw_app (isRw4 INN35) (isRw4 INN36)
  have SPP37_0 : Part PP37 0 NN35 := by rw [hPP37.out]; exact part_left 0 (part_all NN35) NN36
  have SPP37_4 : Part PP37 4 NN36 := by rw [hPP37.out]; exact part_right (NN35) NN36 4 (by simp [INN35.size])
  have HZ26 : ∀ w, (zeroValue 26).run Tryd.prog w = .ok (.agg ZR13) w := by rw [hZR13.out]; exact zeroT26
  have BF18 : ∀ w, (Instr.build 24 #[]).run Tryd.prog w = .ok (.agg NN3) w := by rw [hNN3.out]; exact build0_run
  have SPPP21 : splice PP12 0 NN19.toList = PP21 := by rw [hPP12.out, hPP21.out]; exact splice_left _ _ _ (by rw [INN10.size, INN19.size])
  have BF22 : ∀ w, (Instr.build 24 #[(0, .int .u64 (k : Int))]).run Tryd.prog w = .ok (.agg NN1) w := by rw [hNN1.out]; exact build_run k Wk
  have BF33 : ∀ w, (Instr.build 24 #[(0, .int .u64 (k1 : Int))]).run Tryd.prog w = .ok (.agg NN2) w := by rw [hNN2.out]; exact build_run k1 Wk1
  try simp only [← hNN1.out, ← hNN2.out, ← hNN3.out, ← hNN4.out, ← hNN6.out, ← hNN7.out, ← hNN10.out, ← hNN11.out, ← hNN15.out, ← hNN16.out, ← hNN19.out, ← hNN24.out, ← hNN25.out, ← hNN35.out, ← hNN36.out] at HC5 HC9 HC14 HC20 HC23 HC27 HC28 HC29 HC31 HC32 HC34 HC38 HC39 HC40 HC41 ⊢
  try simp only [← hPP8.out, ← hPP12.out, ← hZR13.out, ← hPP17.out, ← hPP21.out, ← hPP26.out, ← hPP30.out, ← hPP37.out] at HC5 HC9 HC14 HC20 HC23 HC27 HC28 HC29 HC31 HC32 HC34 HC38 HC39 HC40 HC41 ⊢
  clear hNN1 hNN2 hNN3 hNN4 hNN6 hNN7 hPP8 hNN10 hNN11 hPP12 hZR13 hNN15 hNN16 hPP17 hNN19 hPP21 hNN24 hNN25 hPP26 hPP30 hNN35 hNN36 hPP37 Wa Wb Wta Wtb hk10 Wk0 hG0
  go_enter Tryd.func5, Tryd.ntmps5
  have HS : Hid (Kt w [] w) := Lib.hid (Kt.nil w)
  go_upto_region 0 with fail
  refine wp_region_list ?_
  refine wpList_run rfl (.bool false) (exec_assign (.const (.bool false)) rfl _ rfl _) ?_
  simp only [Act.put, sT, sS, sZ]
  refine wpList_nil ?_
  go_upto_region 1 with fail
  refine wp_region_list ?_
  refine wpList_run rfl (.int .u64 (a : Int)) (exec_move (.tmp 0) rfl _ rfl _) ?_
  simp only [Act.put, sT, sS, sZ]
  refine wpList_run rfl (.int .u8 (ta : Int)) (exec_move (.tmp 2) rfl _ rfl _) ?_
  simp only [Act.put, sT, sS, sZ]
  refine wpList_callF rfl 17 #[.tmp 16, .tmp 17] #[22, 5] rfl #[.int .u64 (a : Int), .int .u8 (ta : Int)] en17 (HC5.out _) ?_
  rintro v w1 ⟨he, hb⟩
  cases he
  have HS2 := Lib.hid (HS.out.below hb)
  clear hb HS
  simp only [Act.put, sT, sS, sZ]
  refine wpList_run rfl (.int .u64 (b : Int)) (exec_move (.tmp 1) rfl _ rfl _) ?_
  simp only [Act.put, sT, sS, sZ]
  refine wpList_run rfl (.int .u8 (tb : Int)) (exec_move (.tmp 3) rfl _ rfl _) ?_
  simp only [Act.put, sT, sS, sZ]
  refine wpList_callF rfl 17 #[.tmp 19, .tmp 20] #[22, 5] rfl #[.int .u64 (b : Int), .int .u8 (tb : Int)] en17 (HC9.out _) ?_
  rintro v w3 ⟨he, hb⟩
  cases he
  have HS4 := Lib.hid (HS2.out.below hb)
  clear hb HS2
  simp only [Act.put, sT, sS, sZ]
  refine wpList_run rfl _ (exec_alloc_agg _ 26 rfl _ (HZ26 _)) ?_
  simp only [Act.put, sT, sS, sZ]
  have bg7 := HS4.out.1.size
  have HS6 := Lib.hid (HS4.out.new ZR13 26)
  clear HS4
  generalize w3.alloc (.cells ZR13 26) = w5 at *
  generalize w3.heap.size = g7 at *
  refine wpList_run rfl _ (exec_alloc_agg _ 26 rfl _ (HZ26 _)) ?_
  simp only [Act.put, sT, sS, sZ]
  have lg10_0 := HS6.out.lt (g7) ZR13 26 (by simp)
  have bg10 := HS6.out.1.size
  have HS9 := Lib.hid (HS6.out.new ZR13 26)
  clear HS6
  generalize w5.alloc (.cells ZR13 26) = w8 at *
  generalize w5.heap.size = g10 at *
  refine wpList_run0 rfl (exec_storeT26 _ (.tmp 11) (.tmp 18) rfl (g7) rfl PP8 IPP8 rfl ZR13 26 (HS9.out.get (g7) ZR13 26 (by simp)) SZZR13) ?_
  simp only [Act.put, sT, sS, sZ]
  have HS12 : Hid (Kt w [(g10, ZR13, 26), (g7, PP8, 26)] (w8.setRow (g7) PP8)) := Lib.hid (HS9.out.set (g7) PP8 ZR13 26 (HS9.out.get (g7) ZR13 26 (by simp)) (by omega) (fun p hp => by simp at hp; rcases hp with rfl | rfl <;> first | exact .inl rfl | exact .inr ⟨by simp, by simp only; omega⟩))
  clear HS9
  generalize w8.setRow (g7) PP8 = w11 at *
  refine wpList_run0 rfl (exec_storeT26 _ (.tmp 12) (.tmp 21) rfl (g10) rfl PP12 IPP12 rfl ZR13 26 (HS12.out.get (g10) ZR13 26 (by simp)) SZZR13) ?_
  simp only [Act.put, sT, sS, sZ]
  have HS14 : Hid (Kt w [(g10, PP12, 26), (g7, PP8, 26)] (w11.setRow (g10) PP12)) := Lib.hid (HS12.out.set (g10) PP12 ZR13 26 (HS12.out.get (g10) ZR13 26 (by simp)) (by omega) (fun p hp => by simp at hp; rcases hp with rfl | rfl <;> first | exact .inl rfl | exact .inr ⟨by simp, by simp only; omega⟩))
  clear HS12
  generalize w11.setRow (g10) PP12 = w13 at *
  refine wpList_nil ?_
  go_upto_region 2 with fail
  refine wp_region_list ?_
  refine wpList_run rfl (.agg PP8) (exec_load_of _ 26 (.tmp 11) rfl ⟨g7, 0, none⟩ rfl _ (loadT26 IPP8 (HS14.out.get (g7) PP8 26 (by simp)))) ?_
  simp only [Act.put, sT, sS, sZ]
  refine wpList_run rfl (.agg PP12) (exec_load_of _ 26 (.tmp 12) rfl ⟨g10, 0, none⟩ rfl _ (loadT26 IPP12 (HS14.out.get (g10) PP12 26 (by simp)))) ?_
  simp only [Act.put, sT, sS, sZ]
  refine wpList_callF rfl 18 #[.tmp 22, .tmp 23] #[26, 26] rfl #[.agg PP8, .agg PP12] en18 (HC14.out _ (HG.out.below HS14.out.1)) ?_
  rintro v w15 ⟨he, hb⟩
  cases he
  have HS16 := Lib.hid (HS14.out.below hb)
  clear hb HS14
  simp only [Act.put, sT, sS, sZ]
  refine wpList_run rfl _ (exec_alloc_agg _ 26 rfl _ (HZ26 _)) ?_
  simp only [Act.put, sT, sS, sZ]
  have lg19_0 := HS16.out.lt (g10) PP12 26 (by simp)
  have lg19_1 := HS16.out.lt (g7) PP8 26 (by simp)
  have bg19 := HS16.out.1.size
  have HS18 := Lib.hid (HS16.out.new ZR13 26)
  clear HS16
  generalize w15.alloc (.cells ZR13 26) = w17 at *
  generalize w15.heap.size = g19 at *
  refine wpList_run0 rfl (exec_storeT26 _ (.tmp 13) (.tmp 24) rfl (g19) rfl PP17 IPP17 rfl ZR13 26 (HS18.out.get (g19) ZR13 26 (by simp)) SZZR13) ?_
  simp only [Act.put, sT, sS, sZ]
  have HS21 : Hid (Kt w [(g19, PP17, 26), (g10, PP12, 26), (g7, PP8, 26)] (w17.setRow (g19) PP17)) := Lib.hid (HS18.out.set (g19) PP17 ZR13 26 (HS18.out.get (g19) ZR13 26 (by simp)) (by omega) (fun p hp => by simp at hp; rcases hp with rfl | rfl | rfl <;> first | exact .inl rfl | exact .inr ⟨by simp, by simp only; omega⟩))
  clear HS18
  generalize w17.setRow (g19) PP17 = w20 at *
  refine wpList_nil ?_
  go_upto_region 3 with fail
  refine wp_region_list ?_
  refine wpList_run rfl (.agg PP12) (exec_load_of _ 26 (.tmp 12) rfl ⟨g10, 0, none⟩ rfl _ (loadT26 IPP12 (HS21.out.get (g10) PP12 26 (by simp)))) ?_
  simp only [Act.put, sT, sS, sZ]
  refine wpList_run rfl _ (exec_alloc_agg _ 26 rfl _ (HZ26 _)) ?_
  simp only [Act.put, sT, sS, sZ]
  have lg24_0 := HS21.out.lt (g19) PP17 26 (by simp)
  have lg24_1 := HS21.out.lt (g10) PP12 26 (by simp)
  have lg24_2 := HS21.out.lt (g7) PP8 26 (by simp)
  have bg24 := HS21.out.1.size
  have HS23 := Lib.hid (HS21.out.new ZR13 26)
  clear HS21
  generalize w20.alloc (.cells ZR13 26) = w22 at *
  generalize w20.heap.size = g24 at *
  refine wpList_run0 rfl (exec_storeT26 _ (.tmp 14) (.tmp 25) rfl (g24) rfl PP12 IPP12 rfl ZR13 26 (HS23.out.get (g24) ZR13 26 (by simp)) SZZR13) ?_
  simp only [Act.put, sT, sS, sZ]
  have HS26 : Hid (Kt w [(g24, PP12, 26), (g19, PP17, 26), (g10, PP12, 26), (g7, PP8, 26)] (w22.setRow (g24) PP12)) := Lib.hid (HS23.out.set (g24) PP12 ZR13 26 (HS23.out.get (g24) ZR13 26 (by simp)) (by omega) (fun p hp => by simp at hp; rcases hp with rfl | rfl | rfl | rfl <;> first | exact .inl rfl | exact .inr ⟨by simp, by simp only; omega⟩))
  clear HS23
  generalize w22.setRow (g24) PP12 = w25 at *
  refine wpList_nil ?_
  go_upto_region 4 with fail
  refine wp_region_list ?_
  refine wpList_run rfl (.agg NN3) (exec_buildN _ 24 #[] rfl #[] (by simp [Act.eval]) _ (BF18 _)) ?_
  simp only [Act.put, sT, sS, sZ]
  refine wpList_run rfl (.pointer (some ⟨g10, 0, none⟩)) (exec_field 26 (.tmp 12) 0 rfl _ _ rfl _ (fa26_0 (g10) _)) ?_
  simp only [Act.put, sT, sS, sZ]
  refine wpList_run rfl (.agg NN10) (exec_load_of _ 24 (.tmp 27) rfl ⟨g10, 0, none⟩ rfl _ (load_part (HS26.out.get (g10) PP12 26 (by simp)) INN10 0 SPP12_0)) ?_
  simp only [Act.put, sT, sS, sZ]
  refine wpList_callF rfl 24 #[.tmp 26, .tmp 28] #[24, 24] rfl #[.agg NN3, .agg NN10] en24 (HC20.out _) ?_
  rintro v w27 ⟨he, hb⟩
  cases he
  have HS28 := Lib.hid (HS26.out.below hb)
  clear hb HS26
  simp only [Act.put, sT, sS, sZ]
  refine wpList_run rfl (.pointer (some ⟨g24, 0, none⟩)) (exec_field 26 (.tmp 14) 0 rfl _ _ rfl _ (fa26_0 (g24) _)) ?_
  simp only [Act.put, sT, sS, sZ]
  refine wpList_run0 rfl (exec_store_part _ (.tmp 30) (.tmp 29) rfl (g24) 0 rfl NN19 INN19 rfl PP12 PP21 26 (HS28.out.get (g24) PP12 26 (by simp)) (by rw [IPP12.sz]; decide) SPPP21) ?_
  simp only [Act.put, sT, sS, sZ]
  have HS30 : Hid (Kt w [(g24, PP21, 26), (g19, PP17, 26), (g10, PP12, 26), (g7, PP8, 26)] (w27.setRow (g24) PP21)) := Lib.hid (HS28.out.set (g24) PP21 PP12 26 (HS28.out.get (g24) PP12 26 (by simp)) (by omega) (fun p hp => by simp at hp; rcases hp with rfl | rfl | rfl | rfl <;> first | exact .inl rfl | exact .inr ⟨by simp, by simp only; omega⟩))
  clear HS28
  generalize w27.setRow (g24) PP21 = w29 at *
  refine wpList_nil ?_
  go_upto_region 5 with fail
  refine wp_region_list ?_
  refine wpList_run rfl (.int .u32 (k : Int)) (exec_move (.tmp 4) rfl _ rfl _) ?_
  simp only [Act.put, sT, sS, sZ]
  refine wpList_run rfl (.int .u64 (k : Int)) (exec_convG 41 22 (.tmp 31) rfl _ rfl _ _ _ (cv4122 k Wk _)) ?_
  simp only [Act.put, sT, sS, sZ]
  refine wpList_run rfl (.agg NN1) (exec_buildN _ 24 #[(0, .tmp 32)] rfl #[(0, .int .u64 (k : Int))] (by simp [Act.eval]) _ (BF22 _)) ?_
  simp only [Act.put, sT, sS, sZ]
  refine wpList_run rfl (.agg PP8) (exec_load_of _ 26 (.tmp 11) rfl ⟨g7, 0, none⟩ rfl _ (loadT26 IPP8 (HS30.out.get (g7) PP8 26 (by simp)))) ?_
  simp only [Act.put, sT, sS, sZ]
  refine wpList_callF rfl 20 #[.tmp 33, .tmp 34] #[24, 26] rfl #[.agg NN1, .agg PP8] en20 (HC23.out _ (HG.out.below HS30.out.1)) ?_
  rintro v w31 ⟨he, hb⟩
  cases he
  have HS32 := Lib.hid (HS30.out.below hb)
  clear hb HS30
  simp only [Act.put, sT, sS, sZ]
  refine wpList_run rfl _ (exec_alloc_agg _ 26 rfl _ (HZ26 _)) ?_
  simp only [Act.put, sT, sS, sZ]
  have lg35_0 := HS32.out.lt (g24) PP21 26 (by simp)
  have lg35_1 := HS32.out.lt (g19) PP17 26 (by simp)
  have lg35_2 := HS32.out.lt (g10) PP12 26 (by simp)
  have lg35_3 := HS32.out.lt (g7) PP8 26 (by simp)
  have bg35 := HS32.out.1.size
  have HS34 := Lib.hid (HS32.out.new ZR13 26)
  clear HS32
  generalize w31.alloc (.cells ZR13 26) = w33 at *
  generalize w31.heap.size = g35 at *
  refine wpList_run0 rfl (exec_storeT26 _ (.tmp 15) (.tmp 35) rfl (g35) rfl PP26 IPP26 rfl ZR13 26 (HS34.out.get (g35) ZR13 26 (by simp)) SZZR13) ?_
  simp only [Act.put, sT, sS, sZ]
  have HS37 : Hid (Kt w [(g35, PP26, 26), (g24, PP21, 26), (g19, PP17, 26), (g10, PP12, 26), (g7, PP8, 26)] (w33.setRow (g35) PP26)) := Lib.hid (HS34.out.set (g35) PP26 ZR13 26 (HS34.out.get (g35) ZR13 26 (by simp)) (by omega) (fun p hp => by simp at hp; rcases hp with rfl | rfl | rfl | rfl | rfl <;> first | exact .inl rfl | exact .inr ⟨by simp, by simp only; omega⟩))
  clear HS34
  generalize w33.setRow (g35) PP26 = w36 at *
  refine wpList_nil ?_
  go_upto_region 6 with fail
  refine wp_cut (fun a' W' => a' = { tmps := #[.int .u64 (a : Int), .int .u64 (b : Int), .int .u8 (ta : Int), .int .u8 (tb : Int), .int .u32 (k : Int), undef, undef, undef, undef, undef, .bool true, .pointer (some ⟨g7, 0, none⟩), .pointer (some ⟨g10, 0, none⟩), .pointer (some ⟨g19, 0, none⟩), .pointer (some ⟨g24, 0, none⟩), .pointer (some ⟨g35, 0, none⟩), .int .u64 (a : Int), .int .u8 (ta : Int), .agg PP8, .int .u64 (b : Int), .int .u8 (tb : Int), .agg PP12, .agg PP8, .agg PP12, .agg PP17, .agg PP12, .agg NN3, .pointer (some ⟨g10, 0, none⟩), .agg NN10, .agg NN19, .pointer (some ⟨g24, 0, none⟩), .int .u32 (k : Int), .int .u64 (k : Int), .agg NN1, .agg PP8, .agg PP26, .agg PP17, .bool true, .bool true, .agg PP17, .agg PP12, .agg PP8, .agg PP17, .bool true, .bool true, .bool true, .agg PP17, .agg PP21, .agg PP8, .agg PP8, .bool true, .bool true, .bool true, .agg PP8, .agg PP30, .agg PP8, .agg PP8, .bool true, .bool true, .bool true, .agg PP26, .agg PP8, .agg PP37, .int .u32 (k : Int), .int .u64 (k : Int), .int .u64 (k1 : Int), .agg NN2, .agg PP8, .agg PP37, .bool true, .bool true, .bool true, .agg PP26, .bool true, .bool true, .bool true, .agg NN3, .agg PP8, .agg PP30, .agg PP30, .bool true, .bool true, .bool true, .bool true, .bool true], defers := [] } ∧ Kt w [] W') ?_ ?_
  · refine wp_region_any (by kernel_rfl) ?_
    change wpAny _ _ _ _ _ _ _ (World.drew _)
    have HDq38x1 := HS37.out.drew
    clear HS37
    generalize w36.drew = wdq38x2 at *
    refine any_of_F (S := Kt w [(g35, PP26, 26), (g24, PP21, 26), (g19, PP17, 26), (g10, PP12, 26), (g7, PP8, 26)]) (f := 1000) _ _ _ _ ?_
    refine tkG 0 (some 36) (.load 26 (.tmp 13)) none (.agg PP17) (fun o ho w2 hw => exec_load_of _ 26 (.tmp 13) ho ⟨g19, 0, none⟩ rfl _ (loadT26 IPP17 (hw.get (g19) PP17 26 (by simp)))) HDq38x1 ?_
    simp only [Act.put, sT, sS, sZ]
    refine rdy [1] (rcl (some 37) 13 #[.tmp 36] #[26] #[.agg PP17] en13 _ (HC27.out _ (HG.out.below HDq38x1.1)) ?_ ReadyF.nil)
    rintro v wq38x11 ⟨he, hb⟩
    cases he
    have Hq38x12 := HDq38x1.below hb
    clear hb
    refine ⟨Hq38x12, ?_⟩
    simp only [Act.put, sT, sS, sZ]
    refine tkG 2 (some 38) (.move (.tmp 37)) none (.bool true) (fun o ho w2 hw => exec_move (.tmp 37) ho _ rfl w2) Hq38x12 ?_
    simp only [Act.put, sT, sS, sZ]
    refine tkG 3 (some 39) (.load 26 (.tmp 13)) (some (2, true)) (.agg PP17) (fun o ho w2 hw => exec_load_of _ 26 (.tmp 13) ho ⟨g19, 0, none⟩ rfl _ (loadT26 IPP17 (hw.get (g19) PP17 26 (by simp)))) Hq38x12 ?_
    simp only [Act.put, sT, sS, sZ]
    refine tkG 4 (some 40) (.load 26 (.tmp 12)) (some (2, true)) (.agg PP12) (fun o ho w2 hw => exec_load_of _ 26 (.tmp 12) ho ⟨g10, 0, none⟩ rfl _ (loadT26 IPP12 (hw.get (g10) PP12 26 (by simp)))) Hq38x12 ?_
    simp only [Act.put, sT, sS, sZ]
    refine tkG 5 (some 41) (.load 26 (.tmp 11)) (some (2, true)) (.agg PP8) (fun o ho w2 hw => exec_load_of _ 26 (.tmp 11) ho ⟨g7, 0, none⟩ rfl _ (loadT26 IPP8 (hw.get (g7) PP8 26 (by simp)))) Hq38x12 ?_
    simp only [Act.put, sT, sS, sZ]
    refine rdy [6] (rclG (some 42) 18 #[.tmp 40, .tmp 41] #[26, 26] (some (2, true)) #[.agg PP12, .agg PP8] en18 _ (HC28.out _ (HG.out.below Hq38x12.1)) ?_ ReadyF.nil)
    rintro v wq38x13 ⟨he, hb⟩
    cases he
    have Hq38x14 := Hq38x12.below hb
    clear hb
    refine ⟨Hq38x14, ?_⟩
    simp only [Act.put, sT, sS, sZ]
    refine tkG 7 (some 43) (.binOp .eql 26 (.tmp 39) (.tmp 42) 26) (some (2, true)) (.bool true) (fun o ho w2 hw => exec_eqP (.tmp 39) (.tmp 42) ho PP17 IPP17 rfl rfl w2) Hq38x14 ?_
    simp only [Act.put, sT, sS, sZ]
    refine tkG 8 (some 44) (.pick (.tmp 38) (.tmp 43) (.const (.bool false))) none (.bool true) (fun o ho w2 hw => exec_pickt (.tmp 38) (.tmp 43) (.const (.bool false)) ho rfl _ rfl w2) Hq38x14 ?_
    simp only [Act.put, sT, sS, sZ]
    refine tkG 9 (some 45) (.move (.tmp 44)) none (.bool true) (fun o ho w2 hw => exec_move (.tmp 44) ho _ rfl w2) Hq38x14 ?_
    simp only [Act.put, sT, sS, sZ]
    refine tkG 10 (some 46) (.load 26 (.tmp 13)) (some (9, true)) (.agg PP17) (fun o ho w2 hw => exec_load_of _ 26 (.tmp 13) ho ⟨g19, 0, none⟩ rfl _ (loadT26 IPP17 (hw.get (g19) PP17 26 (by simp)))) Hq38x14 ?_
    simp only [Act.put, sT, sS, sZ]
    refine tkG 11 (some 47) (.load 26 (.tmp 14)) (some (9, true)) (.agg PP21) (fun o ho w2 hw => exec_load_of _ 26 (.tmp 14) ho ⟨g24, 0, none⟩ rfl _ (loadT26 IPP21 (hw.get (g24) PP21 26 (by simp)))) Hq38x14 ?_
    simp only [Act.put, sT, sS, sZ]
    refine tkG 13 (some 49) (.load 26 (.tmp 11)) (some (9, true)) (.agg PP8) (fun o ho w2 hw => exec_load_of _ 26 (.tmp 11) ho ⟨g7, 0, none⟩ rfl _ (loadT26 IPP8 (hw.get (g7) PP8 26 (by simp)))) Hq38x14 ?_
    simp only [Act.put, sT, sS, sZ]
    refine rdy [12] (rclG (some 48) 18 #[.tmp 46, .tmp 47] #[26, 26] (some (9, true)) #[.agg PP17, .agg PP21] en18 _ (HC29.out _ (HG.out.below Hq38x14.1)) ?_ ReadyF.nil)
    rintro v wq38x15 ⟨he, hb⟩
    cases he
    have Hq38x16 := Hq38x14.below hb
    clear hb
    refine ⟨Hq38x16, ?_⟩
    simp only [Act.put, sT, sS, sZ]
    refine tkG 14 (some 50) (.binOp .eql 26 (.tmp 48) (.tmp 49) 26) (some (9, true)) (.bool true) (fun o ho w2 hw => exec_eqP (.tmp 48) (.tmp 49) ho PP8 IPP8 rfl rfl w2) Hq38x16 ?_
    simp only [Act.put, sT, sS, sZ]
    refine tkG 15 (some 51) (.pick (.tmp 45) (.tmp 50) (.const (.bool false))) none (.bool true) (fun o ho w2 hw => exec_pickt (.tmp 45) (.tmp 50) (.const (.bool false)) ho rfl _ rfl w2) Hq38x16 ?_
    simp only [Act.put, sT, sS, sZ]
    refine tkG 16 (some 52) (.move (.tmp 51)) none (.bool true) (fun o ho w2 hw => exec_move (.tmp 51) ho _ rfl w2) Hq38x16 ?_
    simp only [Act.put, sT, sS, sZ]
    refine tkG 17 (some 53) (.load 26 (.tmp 11)) (some (16, true)) (.agg PP8) (fun o ho w2 hw => exec_load_of _ 26 (.tmp 11) ho ⟨g7, 0, none⟩ rfl _ (loadT26 IPP8 (hw.get (g7) PP8 26 (by simp)))) Hq38x16 ?_
    simp only [Act.put, sT, sS, sZ]
    refine tkG 20 (some 56) (.load 26 (.tmp 11)) (some (16, true)) (.agg PP8) (fun o ho w2 hw => exec_load_of _ 26 (.tmp 11) ho ⟨g7, 0, none⟩ rfl _ (loadT26 IPP8 (hw.get (g7) PP8 26 (by simp)))) Hq38x16 ?_
    simp only [Act.put, sT, sS, sZ]
    refine rdy [18] (rclG (some 54) 25 #[] #[] (some (16, true)) #[] en25 _ (HC31.out _) ?_ ReadyF.nil)
    rintro v wq38x17 ⟨he, hb⟩
    cases he
    have Hq38x18 := Hq38x16.below hb
    clear hb
    refine ⟨Hq38x18, ?_⟩
    simp only [Act.put, sT, sS, sZ]
    refine rdy [19] (rclG (some 55) 18 #[.tmp 53, .tmp 54] #[26, 26] (some (16, true)) #[.agg PP8, .agg PP30] en18 _ (HC32.out _ (HG.out.below Hq38x18.1)) ?_ ReadyF.nil)
    rintro v wq38x19 ⟨he, hb⟩
    cases he
    have Hq38x20 := Hq38x18.below hb
    clear hb
    refine ⟨Hq38x20, ?_⟩
    simp only [Act.put, sT, sS, sZ]
    refine tkG 21 (some 57) (.binOp .eql 26 (.tmp 55) (.tmp 56) 26) (some (16, true)) (.bool true) (fun o ho w2 hw => exec_eqP (.tmp 55) (.tmp 56) ho PP8 IPP8 rfl rfl w2) Hq38x20 ?_
    simp only [Act.put, sT, sS, sZ]
    refine tkG 22 (some 58) (.pick (.tmp 52) (.tmp 57) (.const (.bool false))) none (.bool true) (fun o ho w2 hw => exec_pickt (.tmp 52) (.tmp 57) (.const (.bool false)) ho rfl _ rfl w2) Hq38x20 ?_
    simp only [Act.put, sT, sS, sZ]
    refine tkG 23 (some 59) (.move (.tmp 58)) none (.bool true) (fun o ho w2 hw => exec_move (.tmp 58) ho _ rfl w2) Hq38x20 ?_
    simp only [Act.put, sT, sS, sZ]
    refine tkG 24 (some 60) (.load 26 (.tmp 15)) (some (23, true)) (.agg PP26) (fun o ho w2 hw => exec_load_of _ 26 (.tmp 15) ho ⟨g35, 0, none⟩ rfl _ (loadT26 IPP26 (hw.get (g35) PP26 26 (by simp)))) Hq38x20 ?_
    simp only [Act.put, sT, sS, sZ]
    refine tkG 25 (some 61) (.load 26 (.tmp 11)) (some (23, true)) (.agg PP8) (fun o ho w2 hw => exec_load_of _ 26 (.tmp 11) ho ⟨g7, 0, none⟩ rfl _ (loadT26 IPP8 (hw.get (g7) PP8 26 (by simp)))) Hq38x20 ?_
    simp only [Act.put, sT, sS, sZ]
    refine tkG 27 (some 63) (.move (.tmp 4)) (some (23, true)) (.int .u32 (k : Int)) (fun o ho w2 hw => exec_move (.tmp 4) ho _ rfl w2) Hq38x20 ?_
    simp only [Act.put, sT, sS, sZ]
    refine tkG 28 (some 64) (.convert 41 22 (.tmp 63)) (some (23, true)) (.int .u64 (k : Int)) (fun o ho w2 hw => exec_convG 41 22 (.tmp 63) ho _ rfl _ _ _ (cv4122 k Wk w2)) Hq38x20 ?_
    simp only [Act.put, sT, sS, sZ]
    refine tkG 29 (some 65) (.binOp .add 22 (.tmp 64) (.const (.int .u64 1)) 22) (some (23, true)) (.int .u64 (k1 : Int)) (fun o ho w2 hw => exec_add64 (.tmp 64) (.const (.int .u64 1)) ho k 1 k1 hk1.out Wk1 rfl rfl w2) Hq38x20 ?_
    simp only [Act.put, sT, sS, sZ]
    refine tkG 30 (some 66) (.build 24 #[(0, .tmp 65)]) (some (23, true)) (.agg NN2) (fun o ho w2 hw => exec_buildN _ 24 #[(0, .tmp 65)] ho #[(0, .int .u64 (k1 : Int))] (by simp [Act.eval]) _ (BF33 _)) Hq38x20 ?_
    simp only [Act.put, sT, sS, sZ]
    refine tkG 31 (some 67) (.load 26 (.tmp 11)) (some (23, true)) (.agg PP8) (fun o ho w2 hw => exec_load_of _ 26 (.tmp 11) ho ⟨g7, 0, none⟩ rfl _ (loadT26 IPP8 (hw.get (g7) PP8 26 (by simp)))) Hq38x20 ?_
    simp only [Act.put, sT, sS, sZ]
    refine rdy [26] (rclG (some 62) 18 #[.tmp 60, .tmp 61] #[26, 26] (some (23, true)) #[.agg PP26, .agg PP8] en18 _ (HC34.out _ (HG.out.below Hq38x20.1)) ?_ ReadyF.nil)
    rintro v wq38x21 ⟨he, hb⟩
    cases he
    have Hq38x22 := Hq38x20.below hb
    clear hb
    refine ⟨Hq38x22, ?_⟩
    simp only [Act.put, sT, sS, sZ]
    refine rdy [32] (rclG (some 68) 20 #[.tmp 66, .tmp 67] #[24, 26] (some (23, true)) #[.agg NN2, .agg PP8] en20 _ (HC38.out _ (HG.out.below Hq38x22.1)) ?_ ReadyF.nil)
    rintro v wq38x23 ⟨he, hb⟩
    cases he
    have Hq38x24 := Hq38x22.below hb
    clear hb
    refine ⟨Hq38x24, ?_⟩
    simp only [Act.put, sT, sS, sZ]
    refine tkG 33 (some 69) (.binOp .eql 26 (.tmp 62) (.tmp 68) 26) (some (23, true)) (.bool true) (fun o ho w2 hw => exec_eqP (.tmp 62) (.tmp 68) ho PP37 IPP37 rfl rfl w2) Hq38x24 ?_
    simp only [Act.put, sT, sS, sZ]
    refine tkG 34 (some 70) (.pick (.tmp 59) (.tmp 69) (.const (.bool false))) none (.bool true) (fun o ho w2 hw => exec_pickt (.tmp 59) (.tmp 69) (.const (.bool false)) ho rfl _ rfl w2) Hq38x24 ?_
    simp only [Act.put, sT, sS, sZ]
    refine tkG 35 (some 71) (.move (.tmp 70)) none (.bool true) (fun o ho w2 hw => exec_move (.tmp 70) ho _ rfl w2) Hq38x24 ?_
    simp only [Act.put, sT, sS, sZ]
    refine tkG 36 (some 72) (.load 26 (.tmp 15)) (some (35, true)) (.agg PP26) (fun o ho w2 hw => exec_load_of _ 26 (.tmp 15) ho ⟨g35, 0, none⟩ rfl _ (loadT26 IPP26 (hw.get (g35) PP26 26 (by simp)))) Hq38x24 ?_
    simp only [Act.put, sT, sS, sZ]
    refine rdy [37] (rclG (some 73) 13 #[.tmp 72] #[26] (some (35, true)) #[.agg PP26] en13 _ (HC39.out _ (HG.out.below Hq38x24.1)) ?_ ReadyF.nil)
    rintro v wq38x25 ⟨he, hb⟩
    cases he
    have Hq38x26 := Hq38x24.below hb
    clear hb
    refine ⟨Hq38x26, ?_⟩
    simp only [Act.put, sT, sS, sZ]
    refine tkG 38 (some 74) (.pick (.tmp 71) (.tmp 73) (.const (.bool false))) none (.bool true) (fun o ho w2 hw => exec_pickt (.tmp 71) (.tmp 73) (.const (.bool false)) ho rfl _ rfl w2) Hq38x26 ?_
    simp only [Act.put, sT, sS, sZ]
    refine tkG 39 (some 75) (.move (.tmp 74)) none (.bool true) (fun o ho w2 hw => exec_move (.tmp 74) ho _ rfl w2) Hq38x26 ?_
    simp only [Act.put, sT, sS, sZ]
    refine tkG 40 (some 76) (.build 24 #[]) (some (39, true)) (.agg NN3) (fun o ho w2 hw => exec_buildN _ 24 #[] ho #[] (by simp [Act.eval]) _ (BF18 _)) Hq38x26 ?_
    simp only [Act.put, sT, sS, sZ]
    refine tkG 41 (some 77) (.load 26 (.tmp 11)) (some (39, true)) (.agg PP8) (fun o ho w2 hw => exec_load_of _ 26 (.tmp 11) ho ⟨g7, 0, none⟩ rfl _ (loadT26 IPP8 (hw.get (g7) PP8 26 (by simp)))) Hq38x26 ?_
    simp only [Act.put, sT, sS, sZ]
    refine rdy [42] (rclG (some 78) 20 #[.tmp 76, .tmp 77] #[24, 26] (some (39, true)) #[.agg NN3, .agg PP8] en20 _ (HC40.out _ (HG.out.below Hq38x26.1)) ?_ ReadyF.nil)
    rintro v wq38x27 ⟨he, hb⟩
    cases he
    have Hq38x28 := Hq38x26.below hb
    clear hb
    refine ⟨Hq38x28, ?_⟩
    simp only [Act.put, sT, sS, sZ]
    refine rdy [43] (rclG (some 79) 25 #[] #[] (some (39, true)) #[] en25 _ (HC31.out _) ?_ ReadyF.nil)
    rintro v wq38x29 ⟨he, hb⟩
    cases he
    have Hq38x30 := Hq38x28.below hb
    clear hb
    refine ⟨Hq38x30, ?_⟩
    simp only [Act.put, sT, sS, sZ]
    refine tkG 44 (some 80) (.binOp .eql 26 (.tmp 78) (.tmp 79) 26) (some (39, true)) (.bool true) (fun o ho w2 hw => exec_eqP (.tmp 78) (.tmp 79) ho PP30 IPP30 rfl rfl w2) Hq38x30 ?_
    simp only [Act.put, sT, sS, sZ]
    refine tkG 45 (some 81) (.pick (.tmp 75) (.tmp 80) (.const (.bool false))) none (.bool true) (fun o ho w2 hw => exec_pickt (.tmp 75) (.tmp 80) (.const (.bool false)) ho rfl _ rfl w2) Hq38x30 ?_
    simp only [Act.put, sT, sS, sZ]
    refine tkG 46 (some 82) (.move (.tmp 81)) none (.bool true) (fun o ho w2 hw => exec_move (.tmp 81) ho _ rfl w2) Hq38x30 ?_
    simp only [Act.put, sT, sS, sZ]
    refine rdy [47] (rclG (some 83) 10 #[] #[] (some (46, true)) #[] en10 _ (HC41.out _ (HG.out.below Hq38x30.1)) ?_ ReadyF.nil)
    rintro v wq38x31 ⟨he, hb⟩
    cases he
    have Hq38x32 := Hq38x30.below hb
    clear hb
    refine ⟨Hq38x32, ?_⟩
    simp only [Act.put, sT, sS, sZ]
    refine tkG 48 (some 84) (.pick (.tmp 82) (.tmp 83) (.const (.bool false))) none (.bool true) (fun o ho w2 hw => exec_pickt (.tmp 82) (.tmp 83) (.const (.bool false)) ho rfl _ rfl w2) Hq38x32 ?_
    simp only [Act.put, sT, sS, sZ]
    refine tkG 49 (some 10) (.assign (.tmp 84)) none (.bool true) (fun o ho w2 hw => exec_assign (.tmp 84) ho _ rfl w2) Hq38x32 ?_
    simp only [Act.put, sT, sS, sZ]
    refine AnyF.done (by kernel_rfl) ?_ _
    refine nrm_intro ⟨rfl, Hq38x32.sub (fun p hp => by cases hp)⟩
  rintro a' w39 ⟨rfl, hk⟩
  have HS40 := Lib.hid hk
  clear hk HS37
  go_wp2
  go_ret
  exact ⟨rfl, HS40.out.1⟩
end Go.Proofs.YtgbliacncahooaaDoor
