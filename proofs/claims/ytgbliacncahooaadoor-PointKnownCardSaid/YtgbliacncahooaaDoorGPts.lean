/- Points by numbers; contracts said of pairs. No condition but what each names. -/
import Derived.Test.YtgbliacncahooaaDoorGAwakeP
import Derived.Test.YtgbliacncahooaaDoorGRAddP
import Derived.Test.YtgbliacncahooaaDoorGRBase
import Derived.Test.YtgbliacncahooaaDoorGRMulP
namespace Go.Proofs.YtgbliacncahooaaDoor
open Go.RowKit Go.Shelf
set_option linter.unusedVariables false
set_option linter.unusedSimpArgs false
theorem rmul_pt (k : Nat) (p : Nat × Nat) (hk : k < 115792089237316195423570985008687907853269984665640564039457584007913129639936) (hp : onN p) (w : World) :
    Calls Tryd.prog 21 #[.agg (num k), .agg (num p.1 ++ num p.2)] w fun e w' => e = .returned (.agg (num (mulN k p).1 ++ num (mulN k p).2)) ∧ Below w.heap.size w w' := rmul_any k p hk hp w
theorem sub01 : subF 0 1 = pp - 1 := by decide
theorem someN_two : onN (0, pp - 1) := twoN_on
theorem someN_four : onN ((rootF (pp - 1)).1, 0) := fourN_on
def someN (a t : Nat) : Nat × Nat := if t % 4 = 1 then addN (mulN a baseN) (0, pp - 1) else if t % 4 = 2 then addN (mulN a baseN) ((rootF (pp - 1)).1, 0) else mulN a baseN
theorem someN_on (a t : Nat) : onN (someN a t) := by
  unfold someN
  split
  · exact addN_on (mulN_on baseN_on a) someN_two
  · split
    · exact addN_on (mulN_on baseN_on a) someN_four
    · exact mulN_on baseN_on a
theorem ppm_b4 : pp - 1 < 115792089237316195423570985008687907853269984665640564039457584007913129639936 := by decide
set_option maxRecDepth 100000 in
set_option maxHeartbeats 2000000 in
theorem some_0 (a t : Nat) (Wa : a < 18446744073709551616) (ht : t % 4 = 0) (u : Nat) (hu : subF 0 1 = u) (hu4 : u < 115792089237316195423570985008687907853269984665640564039457584007913129639936) (on2 : onN (0, u)) (r : Nat) (hr : (rootF u).1 = r) (on4 : onN (r, 0)) (hl : (rootF u).2 = true) (w : World) :
    Calls Tryd.prog 17 #[.int .u64 (a : Int), .int .u8 (t : Int)] w fun e w' => e = .returned (.agg (num (mulN a baseN).1 ++ num (mulN a baseN).2)) ∧ Below w.heap.size w w' := by
  have ht4 := Lib.hid ht
  have HC4 := Lib.hid (rbase_any)
  have HC8 := Lib.hid (rmul_pt (a) (baseN) (lt64 a Wa) (baseN_on))
  try dsimp only at HC8
  obtain ⟨Pm, hPm⟩ : ∃ zz9, Hid (zz9 = num (u)) := ⟨_, Lib.hid rfl⟩
  have IPm : IsNum Pm := by rw [hPm.out]; exact isNum _
  obtain ⟨ZR1, hZR1⟩ : ∃ zz9, Hid (zz9 = (rowOf .u64 8 (fun _ => 0)).toArray) := ⟨_, Lib.hid rfl⟩
  have SZZR1 : ZR1.size = 8 := by rw [hZR1.out]; rfl
  obtain ⟨NN3, hNN3⟩ : ∃ zz9, Hid (zz9 = num (a)) := ⟨_, Lib.hid rfl⟩
  have INN3 : IsNum NN3 := by rw [hNN3.out]; exact isNum _
  obtain ⟨NN5, hNN5⟩ : ∃ zz9, Hid (zz9 = num ((baseN).1)) := ⟨_, Lib.hid rfl⟩
  have INN5 : IsNum NN5 := by rw [hNN5.out]; exact isNum _
  obtain ⟨NN6, hNN6⟩ : ∃ zz9, Hid (zz9 = num ((baseN).2)) := ⟨_, Lib.hid rfl⟩
  have INN6 : IsNum NN6 := by rw [hNN6.out]; exact isNum _
  obtain ⟨PP7, hPP7⟩ : ∃ zz9, Hid (zz9 = NN5 ++ NN6) := ⟨_, Lib.hid rfl⟩
  have IPP7 : IsRw 8 PP7 := by rw [hPP7.out]; exact rw_app (isRw4 INN5) (isRw4 INN6)
  have SPP7_0 : Part PP7 0 NN5 := by rw [hPP7.out]; exact part_left 0 (part_all NN5) NN6
  have SPP7_4 : Part PP7 4 NN6 := by rw [hPP7.out]; exact part_right (NN5) NN6 4 (by simp [INN5.size])
  obtain ⟨NN9, hNN9⟩ : ∃ zz9, Hid (zz9 = num ((mulN (a) (baseN)).1)) := ⟨_, Lib.hid rfl⟩
  have INN9 : IsNum NN9 := by rw [hNN9.out]; exact isNum _
  obtain ⟨NN10, hNN10⟩ : ∃ zz9, Hid (zz9 = num ((mulN (a) (baseN)).2)) := ⟨_, Lib.hid rfl⟩
  have INN10 : IsNum NN10 := by rw [hNN10.out]; exact isNum _
  obtain ⟨PP11, hPP11⟩ : ∃ zz9, Hid (zz9 = NN9 ++ NN10) := ⟨_, Lib.hid rfl⟩
  have IPP11 : IsRw 8 PP11 := by rw [hPP11.out]; exact rw_app (isRw4 INN9) (isRw4 INN10)
  have SPP11_0 : Part PP11 0 NN9 := by rw [hPP11.out]; exact part_left 0 (part_all NN9) NN10
  have SPP11_4 : Part PP11 4 NN10 := by rw [hPP11.out]; exact part_right (NN9) NN10 4 (by simp [INN9.size])
  have HZ26 : ∀ w, (zeroValue 26).run Tryd.prog w = .ok (.agg ZR1) w := by rw [hZR1.out]; exact zeroT26
  have BF2 : ∀ w, (Instr.build 24 #[(0, .int .u64 (a : Int))]).run Tryd.prog w = .ok (.agg NN3) w := by rw [hNN3.out]; exact build_run a Wa
  try simp only [← hPm.out, ← hNN3.out, ← hNN5.out, ← hNN6.out, ← hNN9.out, ← hNN10.out] at HC4 HC8 ⊢
  try simp only [← hZR1.out, ← hPP7.out, ← hPP11.out] at HC4 HC8 ⊢
  clear hPm hZR1 hNN3 hNN5 hNN6 hPP7 hNN9 hNN10 hPP11 Wa ht hu hu4 on2 hr on4 hl
  go_enter Tryd.func17, Tryd.ntmps17
  have HS : Hid (Kt w [] w) := Lib.hid (Kt.nil w)
  go_upto_region 0 with fail
  refine wp_region_list ?_
  refine wpList_run rfl _ (exec_alloc_agg _ 26 rfl _ (HZ26 _)) ?_
  simp only [Act.put, sT, sS, sZ]
  have bg3 := HS.out.1.size
  have HS2 := Lib.hid (HS.out.new ZR1 26)
  clear HS
  generalize w.alloc (.cells ZR1 26) = w1 at *
  refine wpList_nil ?_
  go_upto_region 1 with fail
  refine wp_region_list ?_
  refine wpList_run rfl (.int .u64 (a : Int)) (exec_move (.tmp 0) rfl _ rfl _) ?_
  simp only [Act.put, sT, sS, sZ]
  refine wpList_run rfl (.agg NN3) (exec_buildN _ 24 #[(0, .tmp 7)] rfl #[(0, .int .u64 (a : Int))] (by simp [Act.eval]) _ (BF2 _)) ?_
  simp only [Act.put, sT, sS, sZ]
  refine wpList_callF rfl 16 #[] #[] rfl #[] en16 (HC4.out _) ?_
  rintro v w4 ⟨he, hb⟩
  cases he
  have HS5 := Lib.hid (HS2.out.below hb)
  clear hb HS2
  simp only [Act.put, sT, sS, sZ]
  refine wpList_callF rfl 21 #[.tmp 8, .tmp 9] #[24, 26] rfl #[.agg NN3, .agg PP7] en21 (HC8.out _) ?_
  rintro v w6 ⟨he, hb⟩
  cases he
  have HS7 := Lib.hid (HS5.out.below hb)
  clear hb HS5
  simp only [Act.put, sT, sS, sZ]
  refine wpList_run rfl _ (exec_alloc_agg _ 26 rfl _ (HZ26 _)) ?_
  simp only [Act.put, sT, sS, sZ]
  have lg10_0 := HS7.out.lt (w.heap.size) ZR1 26 (by simp)
  have bg10 := HS7.out.1.size
  have HS9 := Lib.hid (HS7.out.new ZR1 26)
  clear HS7
  generalize w6.alloc (.cells ZR1 26) = w8 at *
  generalize w6.heap.size = g10 at *
  refine wpList_run0 rfl (exec_storeT26 _ (.tmp 5) (.tmp 10) rfl (g10) rfl PP11 IPP11 rfl ZR1 26 (HS9.out.get (g10) ZR1 26 (by simp)) SZZR1) ?_
  simp only [Act.put, sT, sS, sZ]
  have HS12 : Hid (Kt w [(g10, PP11, 26), (w.heap.size, ZR1, 26)] (w8.setRow (g10) PP11)) := Lib.hid (HS9.out.set (g10) PP11 ZR1 26 (HS9.out.get (g10) ZR1 26 (by simp)) (by omega) (fun p hp => by simp at hp; rcases hp with rfl | rfl <;> first | exact .inl rfl | exact .inr ⟨by simp, by simp only; omega⟩))
  clear HS9
  generalize w8.setRow (g10) PP11 = w11 at *
  refine wpList_nil ?_
  go_upto_region 2 with fail
  refine wp_region_list ?_
  refine wpList_run rfl (.int .u8 (t : Int)) (exec_move (.tmp 1) rfl _ rfl _) ?_
  simp only [Act.put, sT, sS, sZ]
  refine wpList_run rfl (.int .u8 (0 : Int)) (exec_rem4 (.tmp 11) rfl rfl t 0 ht4 rfl _) ?_
  simp only [Act.put, sT, sS, sZ]
  refine wpList_run rfl (.bool false) (exec_eq5 (.tmp 12) (.const (.int .u8 1)) rfl 0 1 false (by decide) rfl rfl _) ?_
  simp only [Act.put, sT, sS, sZ]
  refine wpList_nil ?_
  go_upto_region 4 with fail
  refine wp_region_list ?_
  refine wpList_run rfl (.int .u8 (t : Int)) (exec_move (.tmp 1) rfl _ rfl _) ?_
  simp only [Act.put, sT, sS, sZ]
  refine wpList_run rfl (.int .u8 (0 : Int)) (exec_rem4 (.tmp 20) rfl rfl t 0 ht4 rfl _) ?_
  simp only [Act.put, sT, sS, sZ]
  refine wpList_run rfl (.bool false) (exec_eq5 (.tmp 21) (.const (.int .u8 2)) rfl 0 2 false (by decide) rfl rfl _) ?_
  simp only [Act.put, sT, sS, sZ]
  refine wpList_nil ?_
  go_upto_region 7 with fail
  refine wp_region_list ?_
  refine wpList_run rfl (.agg PP11) (exec_load_of _ 26 (.tmp 5) rfl ⟨g10, 0, none⟩ rfl _ (loadT26 IPP11 (HS12.out.get (g10) PP11 26 (by simp)))) ?_
  simp only [Act.put, sT, sS, sZ]
  refine wpList_run0 rfl (exec_storeT26 _ (.tmp 4) (.tmp 32) rfl (w.heap.size) rfl PP11 IPP11 rfl ZR1 26 (HS12.out.get (w.heap.size) ZR1 26 (by simp)) SZZR1) ?_
  simp only [Act.put, sT, sS, sZ]
  have HS14 : Hid (Kt w [(g10, PP11, 26), (w.heap.size, PP11, 26)] (w11.setRow (w.heap.size) PP11)) := Lib.hid (HS12.out.set (w.heap.size) PP11 ZR1 26 (HS12.out.get (w.heap.size) ZR1 26 (by simp)) (by omega) (fun p hp => by simp at hp; rcases hp with rfl | rfl <;> first | exact .inl rfl | exact .inr ⟨by simp, by simp only; omega⟩))
  clear HS12
  generalize w11.setRow (w.heap.size) PP11 = w13 at *
  refine wpList_nil ?_
  go_wp2
  exact bodyPost_ret (results_cell rfl _ _ _ ⟨w.heap.size, 0, none⟩ rfl _ (loadT26 IPP11 (HS14.out.get (w.heap.size) PP11 26 (by simp)))) rfl ⟨rfl, HS14.out.1⟩
set_option maxRecDepth 100000 in
set_option maxHeartbeats 2000000 in
theorem some_1 (a t : Nat) (Wa : a < 18446744073709551616) (ht : t % 4 = 1) (u : Nat) (hu : subF 0 1 = u) (hu4 : u < 115792089237316195423570985008687907853269984665640564039457584007913129639936) (on2 : onN (0, u)) (r : Nat) (hr : (rootF u).1 = r) (on4 : onN (r, 0)) (hl : (rootF u).2 = true) (w : World) :
    Calls Tryd.prog 17 #[.int .u64 (a : Int), .int .u8 (t : Int)] w fun e w' => e = .returned (.agg (num (addN (mulN a baseN) (0, u)).1 ++ num (addN (mulN a baseN) (0, u)).2)) ∧ Below w.heap.size w w' := by
  have ht4 := Lib.hid ht
  have HC4 := Lib.hid (rbase_any)
  have HC8 := Lib.hid (rmul_pt (a) (baseN) (lt64 a Wa) (baseN_on))
  try dsimp only at HC8
  have HC16 := Lib.hid (rsub_any (0) (1) (by decide) (by decide))
  rw [hu] at HC16
  have HC19 := Lib.hid (radd_pts (mulN (a) (baseN)) ((0, u)) (mulN_on (baseN_on) (a)) (on2))
  try dsimp only at HC19
  obtain ⟨Pm, hPm⟩ : ∃ zz9, Hid (zz9 = num (u)) := ⟨_, Lib.hid rfl⟩
  have IPm : IsNum Pm := by rw [hPm.out]; exact isNum _
  obtain ⟨ZR1, hZR1⟩ : ∃ zz9, Hid (zz9 = (rowOf .u64 8 (fun _ => 0)).toArray) := ⟨_, Lib.hid rfl⟩
  have SZZR1 : ZR1.size = 8 := by rw [hZR1.out]; rfl
  obtain ⟨NN3, hNN3⟩ : ∃ zz9, Hid (zz9 = num (a)) := ⟨_, Lib.hid rfl⟩
  have INN3 : IsNum NN3 := by rw [hNN3.out]; exact isNum _
  obtain ⟨NN5, hNN5⟩ : ∃ zz9, Hid (zz9 = num ((baseN).1)) := ⟨_, Lib.hid rfl⟩
  have INN5 : IsNum NN5 := by rw [hNN5.out]; exact isNum _
  obtain ⟨NN6, hNN6⟩ : ∃ zz9, Hid (zz9 = num ((baseN).2)) := ⟨_, Lib.hid rfl⟩
  have INN6 : IsNum NN6 := by rw [hNN6.out]; exact isNum _
  obtain ⟨PP7, hPP7⟩ : ∃ zz9, Hid (zz9 = NN5 ++ NN6) := ⟨_, Lib.hid rfl⟩
  have IPP7 : IsRw 8 PP7 := by rw [hPP7.out]; exact rw_app (isRw4 INN5) (isRw4 INN6)
  have SPP7_0 : Part PP7 0 NN5 := by rw [hPP7.out]; exact part_left 0 (part_all NN5) NN6
  have SPP7_4 : Part PP7 4 NN6 := by rw [hPP7.out]; exact part_right (NN5) NN6 4 (by simp [INN5.size])
  obtain ⟨NN9, hNN9⟩ : ∃ zz9, Hid (zz9 = num ((mulN (a) (baseN)).1)) := ⟨_, Lib.hid rfl⟩
  have INN9 : IsNum NN9 := by rw [hNN9.out]; exact isNum _
  obtain ⟨NN10, hNN10⟩ : ∃ zz9, Hid (zz9 = num ((mulN (a) (baseN)).2)) := ⟨_, Lib.hid rfl⟩
  have INN10 : IsNum NN10 := by rw [hNN10.out]; exact isNum _
  obtain ⟨PP11, hPP11⟩ : ∃ zz9, Hid (zz9 = NN9 ++ NN10) := ⟨_, Lib.hid rfl⟩
  have IPP11 : IsRw 8 PP11 := by rw [hPP11.out]; exact rw_app (isRw4 INN9) (isRw4 INN10)
  have SPP11_0 : Part PP11 0 NN9 := by rw [hPP11.out]; exact part_left 0 (part_all NN9) NN10
  have SPP11_4 : Part PP11 4 NN10 := by rw [hPP11.out]; exact part_right (NN9) NN10 4 (by simp [INN9.size])
  obtain ⟨NN13, hNN13⟩ : ∃ zz9, Hid (zz9 = num (0)) := ⟨_, Lib.hid rfl⟩
  have INN13 : IsNum NN13 := by rw [hNN13.out]; exact isNum _
  obtain ⟨NN15, hNN15⟩ : ∃ zz9, Hid (zz9 = num (1)) := ⟨_, Lib.hid rfl⟩
  have INN15 : IsNum NN15 := by rw [hNN15.out]; exact isNum _
  obtain ⟨PP18, hPP18⟩ : ∃ zz9, Hid (zz9 = NN13 ++ Pm) := ⟨_, Lib.hid rfl⟩
  have IPP18 : IsRw 8 PP18 := by rw [hPP18.out]; exact rw_app (isRw4 INN13) (isRw4 IPm)
  have SPP18_0 : Part PP18 0 NN13 := by rw [hPP18.out]; exact part_left 0 (part_all NN13) Pm
  have SPP18_4 : Part PP18 4 Pm := by rw [hPP18.out]; exact part_right (NN13) Pm 4 (by simp [INN13.size])
  obtain ⟨NN20, hNN20⟩ : ∃ zz9, Hid (zz9 = num ((addN (mulN (a) (baseN)) ((0, u))).1)) := ⟨_, Lib.hid rfl⟩
  have INN20 : IsNum NN20 := by rw [hNN20.out]; exact isNum _
  obtain ⟨NN21, hNN21⟩ : ∃ zz9, Hid (zz9 = num ((addN (mulN (a) (baseN)) ((0, u))).2)) := ⟨_, Lib.hid rfl⟩
  have INN21 : IsNum NN21 := by rw [hNN21.out]; exact isNum _
  obtain ⟨PP22, hPP22⟩ : ∃ zz9, Hid (zz9 = NN20 ++ NN21) := ⟨_, Lib.hid rfl⟩
  have IPP22 : IsRw 8 PP22 := by rw [hPP22.out]; exact rw_app (isRw4 INN20) (isRw4 INN21)
  have SPP22_0 : Part PP22 0 NN20 := by rw [hPP22.out]; exact part_left 0 (part_all NN20) NN21
  have SPP22_4 : Part PP22 4 NN21 := by rw [hPP22.out]; exact part_right (NN20) NN21 4 (by simp [INN20.size])
  have HZ26 : ∀ w, (zeroValue 26).run Tryd.prog w = .ok (.agg ZR1) w := by rw [hZR1.out]; exact zeroT26
  have BF2 : ∀ w, (Instr.build 24 #[(0, .int .u64 (a : Int))]).run Tryd.prog w = .ok (.agg NN3) w := by rw [hNN3.out]; exact build_run a Wa
  have BF12 : ∀ w, (Instr.build 24 #[]).run Tryd.prog w = .ok (.agg NN13) w := by rw [hNN13.out]; exact build0_run
  have BF14 : ∀ w, (Instr.build 24 #[(0, .int .u64 1)]).run Tryd.prog w = .ok (.agg NN15) w := by rw [hNN15.out]; exact build_run 1 (by decide)
  have BF17 : ∀ w, (Instr.build 26 #[(1, .agg Pm)]).run Tryd.prog w = .ok (.agg PP18) w := by have q := bp1 IPm; rw [← hNN13.out] at q; rw [hPP18.out]; exact q
  try simp only [← hPm.out, ← hNN3.out, ← hNN5.out, ← hNN6.out, ← hNN9.out, ← hNN10.out, ← hNN13.out, ← hNN15.out, ← hNN20.out, ← hNN21.out] at HC4 HC8 HC16 HC19 ⊢
  try simp only [← hZR1.out, ← hPP7.out, ← hPP11.out, ← hPP18.out, ← hPP22.out] at HC4 HC8 HC16 HC19 ⊢
  clear hPm hZR1 hNN3 hNN5 hNN6 hPP7 hNN9 hNN10 hPP11 hNN13 hNN15 hPP18 hNN20 hNN21 hPP22 Wa ht hu hu4 on2 hr on4 hl
  go_enter Tryd.func17, Tryd.ntmps17
  have HS : Hid (Kt w [] w) := Lib.hid (Kt.nil w)
  go_upto_region 0 with fail
  refine wp_region_list ?_
  refine wpList_run rfl _ (exec_alloc_agg _ 26 rfl _ (HZ26 _)) ?_
  simp only [Act.put, sT, sS, sZ]
  have bg3 := HS.out.1.size
  have HS2 := Lib.hid (HS.out.new ZR1 26)
  clear HS
  generalize w.alloc (.cells ZR1 26) = w1 at *
  refine wpList_nil ?_
  go_upto_region 1 with fail
  refine wp_region_list ?_
  refine wpList_run rfl (.int .u64 (a : Int)) (exec_move (.tmp 0) rfl _ rfl _) ?_
  simp only [Act.put, sT, sS, sZ]
  refine wpList_run rfl (.agg NN3) (exec_buildN _ 24 #[(0, .tmp 7)] rfl #[(0, .int .u64 (a : Int))] (by simp [Act.eval]) _ (BF2 _)) ?_
  simp only [Act.put, sT, sS, sZ]
  refine wpList_callF rfl 16 #[] #[] rfl #[] en16 (HC4.out _) ?_
  rintro v w4 ⟨he, hb⟩
  cases he
  have HS5 := Lib.hid (HS2.out.below hb)
  clear hb HS2
  simp only [Act.put, sT, sS, sZ]
  refine wpList_callF rfl 21 #[.tmp 8, .tmp 9] #[24, 26] rfl #[.agg NN3, .agg PP7] en21 (HC8.out _) ?_
  rintro v w6 ⟨he, hb⟩
  cases he
  have HS7 := Lib.hid (HS5.out.below hb)
  clear hb HS5
  simp only [Act.put, sT, sS, sZ]
  refine wpList_run rfl _ (exec_alloc_agg _ 26 rfl _ (HZ26 _)) ?_
  simp only [Act.put, sT, sS, sZ]
  have lg10_0 := HS7.out.lt (w.heap.size) ZR1 26 (by simp)
  have bg10 := HS7.out.1.size
  have HS9 := Lib.hid (HS7.out.new ZR1 26)
  clear HS7
  generalize w6.alloc (.cells ZR1 26) = w8 at *
  generalize w6.heap.size = g10 at *
  refine wpList_run0 rfl (exec_storeT26 _ (.tmp 5) (.tmp 10) rfl (g10) rfl PP11 IPP11 rfl ZR1 26 (HS9.out.get (g10) ZR1 26 (by simp)) SZZR1) ?_
  simp only [Act.put, sT, sS, sZ]
  have HS12 : Hid (Kt w [(g10, PP11, 26), (w.heap.size, ZR1, 26)] (w8.setRow (g10) PP11)) := Lib.hid (HS9.out.set (g10) PP11 ZR1 26 (HS9.out.get (g10) ZR1 26 (by simp)) (by omega) (fun p hp => by simp at hp; rcases hp with rfl | rfl <;> first | exact .inl rfl | exact .inr ⟨by simp, by simp only; omega⟩))
  clear HS9
  generalize w8.setRow (g10) PP11 = w11 at *
  refine wpList_nil ?_
  go_upto_region 2 with fail
  refine wp_region_list ?_
  refine wpList_run rfl (.int .u8 (t : Int)) (exec_move (.tmp 1) rfl _ rfl _) ?_
  simp only [Act.put, sT, sS, sZ]
  refine wpList_run rfl (.int .u8 (1 : Int)) (exec_rem4 (.tmp 11) rfl rfl t 1 ht4 rfl _) ?_
  simp only [Act.put, sT, sS, sZ]
  refine wpList_run rfl (.bool true) (exec_eq5 (.tmp 12) (.const (.int .u8 1)) rfl 1 1 true (by decide) rfl rfl _) ?_
  simp only [Act.put, sT, sS, sZ]
  refine wpList_nil ?_
  go_upto_region 3 with fail
  refine wp_cut (fun a' W' => a' = { tmps := #[.int .u64 (a : Int), .int .u8 (t : Int), undef, undef, .pointer (some ⟨w.heap.size, 0, none⟩), .pointer (some ⟨g10, 0, none⟩), undef, .int .u64 (a : Int), .agg NN3, .agg PP7, .agg PP11, .int .u8 (t : Int), .int .u8 (1 : Int), .bool true, .agg PP11, .agg NN13, .agg NN15, .agg Pm, .agg PP18, .agg PP22, undef, undef, undef, undef, undef, undef, undef, undef, undef, undef, undef, undef, undef], defers := [] } ∧ Kt w [(g10, PP22, 26), (w.heap.size, ZR1, 26)] W') ?_ ?_
  · refine wp_region_any (by kernel_rfl) ?_
    change wpAny _ _ _ _ _ _ _ (World.drew _)
    have HDq13x1 := HS12.out.drew
    clear HS12
    generalize w11.drew = wdq13x2 at *
    refine any_of_F (S := Kt w [(g10, PP11, 26), (w.heap.size, ZR1, 26)]) (f := 6) _ _ _ _ ?_
    refine tkL 0 (some 14) (.load 26 (.tmp 5)) (.agg PP11) (fun o ho w2 hw => exec_load_of _ 26 (.tmp 5) ho ⟨g10, 0, none⟩ rfl _ (loadT26 IPP11 (hw.get (g10) PP11 26 (by simp)))) HDq13x1 ?_
    simp only [Act.put, sT, sS, sZ]
    refine tkL 1 (some 15) (.build 24 #[]) (.agg NN13) (fun o ho w2 hw => exec_buildN _ 24 #[] ho #[] (by simp [Act.eval]) _ (BF12 _)) HDq13x1 ?_
    simp only [Act.put, sT, sS, sZ]
    refine tkL 2 (some 16) (.build 24 #[(0, .const (.int .u64 1))]) (.agg NN15) (fun o ho w2 hw => exec_buildN _ 24 #[(0, .const (.int .u64 1))] ho #[(0, .int .u64 1)] (by simp [Act.eval]) _ (BF14 _)) HDq13x1 ?_
    simp only [Act.put, sT, sS, sZ]
    refine rdy [3] (rcl (some 17) 24 #[.tmp 15, .tmp 16] #[24, 24] #[.agg NN13, .agg NN15] en24 _ (HC16.out _) ?_ ReadyF.nil)
    rintro v wq13x11 ⟨he, hb⟩
    cases he
    have Hq13x12 := HDq13x1.below hb
    clear hb
    refine ⟨Hq13x12, ?_⟩
    simp only [Act.put, sT, sS, sZ]
    refine tkL 4 (some 18) (.build 26 #[(1, .tmp 17)]) (.agg PP18) (fun o ho w2 hw => exec_buildN _ 26 #[(1, .tmp 17)] ho #[(1, .agg Pm)] (by simp [Act.eval]) _ (BF17 _)) Hq13x12 ?_
    simp only [Act.put, sT, sS, sZ]
    refine rdy [5] (rcl (some 19) 19 #[.tmp 14, .tmp 18] #[26, 26] #[.agg PP11, .agg PP18] en19 _ (HC19.out _) ?_ ReadyF.nil)
    rintro v wq13x13 ⟨he, hb⟩
    cases he
    have Hq13x14 := Hq13x12.below hb
    clear hb
    refine ⟨Hq13x14, ?_⟩
    simp only [Act.put, sT, sS, sZ]
    refine rdy [6] (ReadyF.last (.store 26 (.tmp 5) (.tmp 19)) rfl (fun o ho => exec_storeT26 wq13x13 (.tmp 5) (.tmp 19) ho (g10) rfl PP22 IPP22 rfl PP11 26 (Hq13x14.get (g10) PP11 26 (by simp)) IPP11.sz) ?_ ReadyF.nil)
    refine any_doneF (by kernel_rfl) ?_ _
    have Hq13x15 : Kt w [(g10, PP22, 26), (w.heap.size, ZR1, 26)] (wq13x13.setRow (g10) PP22) := Hq13x14.set (g10) PP22 PP11 26 (Hq13x14.get (g10) PP11 26 (by simp)) (by omega) (fun p hp => by simp at hp; rcases hp with rfl | rfl <;> first | exact .inl rfl | exact .inr ⟨by simp, by simp only; omega⟩)
    refine nrm_intro ⟨rfl, Hq13x15.sub (fun p hp => by simp at hp; rcases hp with rfl | rfl <;> simp)⟩
  rintro a' w14 ⟨rfl, hk⟩
  have HS15 := Lib.hid hk
  clear hk HS12
  go_upto_region 4 with fail
  refine wp_region_list ?_
  refine wpList_run rfl (.int .u8 (t : Int)) (exec_move (.tmp 1) rfl _ rfl _) ?_
  simp only [Act.put, sT, sS, sZ]
  refine wpList_run rfl (.int .u8 (1 : Int)) (exec_rem4 (.tmp 20) rfl rfl t 1 ht4 rfl _) ?_
  simp only [Act.put, sT, sS, sZ]
  refine wpList_run rfl (.bool false) (exec_eq5 (.tmp 21) (.const (.int .u8 2)) rfl 1 2 false (by decide) rfl rfl _) ?_
  simp only [Act.put, sT, sS, sZ]
  refine wpList_nil ?_
  go_upto_region 7 with fail
  refine wp_region_list ?_
  refine wpList_run rfl (.agg PP22) (exec_load_of _ 26 (.tmp 5) rfl ⟨g10, 0, none⟩ rfl _ (loadT26 IPP22 (HS15.out.get (g10) PP22 26 (by simp)))) ?_
  simp only [Act.put, sT, sS, sZ]
  refine wpList_run0 rfl (exec_storeT26 _ (.tmp 4) (.tmp 32) rfl (w.heap.size) rfl PP22 IPP22 rfl ZR1 26 (HS15.out.get (w.heap.size) ZR1 26 (by simp)) SZZR1) ?_
  simp only [Act.put, sT, sS, sZ]
  have HS17 : Hid (Kt w [(g10, PP22, 26), (w.heap.size, PP22, 26)] (w14.setRow (w.heap.size) PP22)) := Lib.hid (HS15.out.set (w.heap.size) PP22 ZR1 26 (HS15.out.get (w.heap.size) ZR1 26 (by simp)) (by omega) (fun p hp => by simp at hp; rcases hp with rfl | rfl <;> first | exact .inl rfl | exact .inr ⟨by simp, by simp only; omega⟩))
  clear HS15
  generalize w14.setRow (w.heap.size) PP22 = w16 at *
  refine wpList_nil ?_
  go_wp2
  exact bodyPost_ret (results_cell rfl _ _ _ ⟨w.heap.size, 0, none⟩ rfl _ (loadT26 IPP22 (HS17.out.get (w.heap.size) PP22 26 (by simp)))) rfl ⟨rfl, HS17.out.1⟩
set_option maxRecDepth 100000 in
set_option maxHeartbeats 2000000 in
theorem some_2 (a t : Nat) (Wa : a < 18446744073709551616) (ht : t % 4 = 2) (u : Nat) (hu : subF 0 1 = u) (hu4 : u < 115792089237316195423570985008687907853269984665640564039457584007913129639936) (on2 : onN (0, u)) (r : Nat) (hr : (rootF u).1 = r) (on4 : onN (r, 0)) (hl : (rootF u).2 = true) (w : World) :
    Calls Tryd.prog 17 #[.int .u64 (a : Int), .int .u8 (t : Int)] w fun e w' => e = .returned (.agg (num (addN (mulN a baseN) (r, 0)).1 ++ num (addN (mulN a baseN) (r, 0)).2)) ∧ Below w.heap.size w w' := by
  have ht4 := Lib.hid ht
  have HC4 := Lib.hid (rbase_any)
  have HC8 := Lib.hid (rmul_pt (a) (baseN) (lt64 a Wa) (baseN_on))
  try dsimp only at HC8
  have HC16 := Lib.hid (rsub_any (0) (1) (by decide) (by decide))
  rw [hu] at HC16
  have HC19 := Lib.hid (rroot_got (u) hu4)
  rw [hl] at HC19
  rw [hr] at HC19
  have HC23 := Lib.hid (radd_pts (mulN (a) (baseN)) ((r, 0)) (mulN_on (baseN_on) (a)) (on4))
  try dsimp only at HC23
  obtain ⟨Pm, hPm⟩ : ∃ zz9, Hid (zz9 = num (u)) := ⟨_, Lib.hid rfl⟩
  have IPm : IsNum Pm := by rw [hPm.out]; exact isNum _
  obtain ⟨ZR1, hZR1⟩ : ∃ zz9, Hid (zz9 = (rowOf .u64 8 (fun _ => 0)).toArray) := ⟨_, Lib.hid rfl⟩
  have SZZR1 : ZR1.size = 8 := by rw [hZR1.out]; rfl
  obtain ⟨NN3, hNN3⟩ : ∃ zz9, Hid (zz9 = num (a)) := ⟨_, Lib.hid rfl⟩
  have INN3 : IsNum NN3 := by rw [hNN3.out]; exact isNum _
  obtain ⟨NN5, hNN5⟩ : ∃ zz9, Hid (zz9 = num ((baseN).1)) := ⟨_, Lib.hid rfl⟩
  have INN5 : IsNum NN5 := by rw [hNN5.out]; exact isNum _
  obtain ⟨NN6, hNN6⟩ : ∃ zz9, Hid (zz9 = num ((baseN).2)) := ⟨_, Lib.hid rfl⟩
  have INN6 : IsNum NN6 := by rw [hNN6.out]; exact isNum _
  obtain ⟨PP7, hPP7⟩ : ∃ zz9, Hid (zz9 = NN5 ++ NN6) := ⟨_, Lib.hid rfl⟩
  have IPP7 : IsRw 8 PP7 := by rw [hPP7.out]; exact rw_app (isRw4 INN5) (isRw4 INN6)
  have SPP7_0 : Part PP7 0 NN5 := by rw [hPP7.out]; exact part_left 0 (part_all NN5) NN6
  have SPP7_4 : Part PP7 4 NN6 := by rw [hPP7.out]; exact part_right (NN5) NN6 4 (by simp [INN5.size])
  obtain ⟨NN9, hNN9⟩ : ∃ zz9, Hid (zz9 = num ((mulN (a) (baseN)).1)) := ⟨_, Lib.hid rfl⟩
  have INN9 : IsNum NN9 := by rw [hNN9.out]; exact isNum _
  obtain ⟨NN10, hNN10⟩ : ∃ zz9, Hid (zz9 = num ((mulN (a) (baseN)).2)) := ⟨_, Lib.hid rfl⟩
  have INN10 : IsNum NN10 := by rw [hNN10.out]; exact isNum _
  obtain ⟨PP11, hPP11⟩ : ∃ zz9, Hid (zz9 = NN9 ++ NN10) := ⟨_, Lib.hid rfl⟩
  have IPP11 : IsRw 8 PP11 := by rw [hPP11.out]; exact rw_app (isRw4 INN9) (isRw4 INN10)
  have SPP11_0 : Part PP11 0 NN9 := by rw [hPP11.out]; exact part_left 0 (part_all NN9) NN10
  have SPP11_4 : Part PP11 4 NN10 := by rw [hPP11.out]; exact part_right (NN9) NN10 4 (by simp [INN9.size])
  obtain ⟨NN13, hNN13⟩ : ∃ zz9, Hid (zz9 = num (0)) := ⟨_, Lib.hid rfl⟩
  have INN13 : IsNum NN13 := by rw [hNN13.out]; exact isNum _
  obtain ⟨NN15, hNN15⟩ : ∃ zz9, Hid (zz9 = num (1)) := ⟨_, Lib.hid rfl⟩
  have INN15 : IsNum NN15 := by rw [hNN15.out]; exact isNum _
  obtain ⟨NN17, hNN17⟩ : ∃ zz9, Hid (zz9 = num (r)) := ⟨_, Lib.hid rfl⟩
  have INN17 : IsNum NN17 := by rw [hNN17.out]; exact isNum _
  obtain ⟨GT18, hGT18⟩ : ∃ zz9, Hid (zz9 = NN17 ++ #[.bool true]) := ⟨_, Lib.hid rfl⟩
  have IGT18 : IsGot GT18 := by rw [hGT18.out]; exact got_of INN17 true
  have SGT18_0 : Part GT18 0 NN17 := by rw [hGT18.out]; exact part_left 0 (part_all NN17) _
  have CGT18_4 : GT18[4]? = some (.bool true) := by rw [hGT18.out]; exact got_b INN17 true
  obtain ⟨ZR20, hZR20⟩ : ∃ zz9, Hid (zz9 = gotV (fun _ => 0) false) := ⟨_, Lib.hid rfl⟩
  have SZZR20 : ZR20.size = 5 := by rw [hZR20.out]; rfl
  obtain ⟨PP22, hPP22⟩ : ∃ zz9, Hid (zz9 = NN17 ++ NN13) := ⟨_, Lib.hid rfl⟩
  have IPP22 : IsRw 8 PP22 := by rw [hPP22.out]; exact rw_app (isRw4 INN17) (isRw4 INN13)
  have SPP22_0 : Part PP22 0 NN17 := by rw [hPP22.out]; exact part_left 0 (part_all NN17) NN13
  have SPP22_4 : Part PP22 4 NN13 := by rw [hPP22.out]; exact part_right (NN17) NN13 4 (by simp [INN17.size])
  obtain ⟨NN24, hNN24⟩ : ∃ zz9, Hid (zz9 = num ((addN (mulN (a) (baseN)) ((r, 0))).1)) := ⟨_, Lib.hid rfl⟩
  have INN24 : IsNum NN24 := by rw [hNN24.out]; exact isNum _
  obtain ⟨NN25, hNN25⟩ : ∃ zz9, Hid (zz9 = num ((addN (mulN (a) (baseN)) ((r, 0))).2)) := ⟨_, Lib.hid rfl⟩
  have INN25 : IsNum NN25 := by rw [hNN25.out]; exact isNum _
  obtain ⟨PP26, hPP26⟩ : ∃ zz9, Hid (zz9 = NN24 ++ NN25) := ⟨_, Lib.hid rfl⟩
  have IPP26 : IsRw 8 PP26 := by rw [hPP26.out]; exact rw_app (isRw4 INN24) (isRw4 INN25)
  have SPP26_0 : Part PP26 0 NN24 := by rw [hPP26.out]; exact part_left 0 (part_all NN24) NN25
  have SPP26_4 : Part PP26 4 NN25 := by rw [hPP26.out]; exact part_right (NN24) NN25 4 (by simp [INN24.size])
  have HZ26 : ∀ w, (zeroValue 26).run Tryd.prog w = .ok (.agg ZR1) w := by rw [hZR1.out]; exact zeroT26
  have HZ60 : ∀ w, (zeroValue 60).run Tryd.prog w = .ok (.agg ZR20) w := by rw [hZR20.out]; exact zero29
  have BF2 : ∀ w, (Instr.build 24 #[(0, .int .u64 (a : Int))]).run Tryd.prog w = .ok (.agg NN3) w := by rw [hNN3.out]; exact build_run a Wa
  have BF12 : ∀ w, (Instr.build 24 #[]).run Tryd.prog w = .ok (.agg NN13) w := by rw [hNN13.out]; exact build0_run
  have BF14 : ∀ w, (Instr.build 24 #[(0, .int .u64 1)]).run Tryd.prog w = .ok (.agg NN15) w := by rw [hNN15.out]; exact build_run 1 (by decide)
  have BF21 : ∀ w, (Instr.build 26 #[(0, .agg NN17)]).run Tryd.prog w = .ok (.agg PP22) w := by have q := bp0 INN17; rw [← hNN13.out] at q; rw [hPP22.out]; exact q
  try simp only [← hPm.out, ← hNN3.out, ← hNN5.out, ← hNN6.out, ← hNN9.out, ← hNN10.out, ← hNN13.out, ← hNN15.out, ← hNN17.out, ← hNN24.out, ← hNN25.out] at HC4 HC8 HC16 HC19 HC23 ⊢
  try simp only [← hZR1.out, ← hPP7.out, ← hPP11.out, ← hPP22.out, ← hPP26.out] at HC4 HC8 HC16 HC19 HC23 ⊢
  try simp only [← hZR20.out] at HC4 HC8 HC16 HC19 HC23 ⊢
  try simp only [← hGT18.out] at HC4 HC8 HC16 HC19 HC23 ⊢
  clear hPm hZR1 hNN3 hNN5 hNN6 hPP7 hNN9 hNN10 hPP11 hNN13 hNN15 hNN17 hGT18 hZR20 hPP22 hNN24 hNN25 hPP26 Wa ht hu hu4 on2 hr on4 hl
  go_enter Tryd.func17, Tryd.ntmps17
  have HS : Hid (Kt w [] w) := Lib.hid (Kt.nil w)
  go_upto_region 0 with fail
  refine wp_region_list ?_
  refine wpList_run rfl _ (exec_alloc_agg _ 26 rfl _ (HZ26 _)) ?_
  simp only [Act.put, sT, sS, sZ]
  have bg3 := HS.out.1.size
  have HS2 := Lib.hid (HS.out.new ZR1 26)
  clear HS
  generalize w.alloc (.cells ZR1 26) = w1 at *
  refine wpList_nil ?_
  go_upto_region 1 with fail
  refine wp_region_list ?_
  refine wpList_run rfl (.int .u64 (a : Int)) (exec_move (.tmp 0) rfl _ rfl _) ?_
  simp only [Act.put, sT, sS, sZ]
  refine wpList_run rfl (.agg NN3) (exec_buildN _ 24 #[(0, .tmp 7)] rfl #[(0, .int .u64 (a : Int))] (by simp [Act.eval]) _ (BF2 _)) ?_
  simp only [Act.put, sT, sS, sZ]
  refine wpList_callF rfl 16 #[] #[] rfl #[] en16 (HC4.out _) ?_
  rintro v w4 ⟨he, hb⟩
  cases he
  have HS5 := Lib.hid (HS2.out.below hb)
  clear hb HS2
  simp only [Act.put, sT, sS, sZ]
  refine wpList_callF rfl 21 #[.tmp 8, .tmp 9] #[24, 26] rfl #[.agg NN3, .agg PP7] en21 (HC8.out _) ?_
  rintro v w6 ⟨he, hb⟩
  cases he
  have HS7 := Lib.hid (HS5.out.below hb)
  clear hb HS5
  simp only [Act.put, sT, sS, sZ]
  refine wpList_run rfl _ (exec_alloc_agg _ 26 rfl _ (HZ26 _)) ?_
  simp only [Act.put, sT, sS, sZ]
  have lg10_0 := HS7.out.lt (w.heap.size) ZR1 26 (by simp)
  have bg10 := HS7.out.1.size
  have HS9 := Lib.hid (HS7.out.new ZR1 26)
  clear HS7
  generalize w6.alloc (.cells ZR1 26) = w8 at *
  generalize w6.heap.size = g10 at *
  refine wpList_run0 rfl (exec_storeT26 _ (.tmp 5) (.tmp 10) rfl (g10) rfl PP11 IPP11 rfl ZR1 26 (HS9.out.get (g10) ZR1 26 (by simp)) SZZR1) ?_
  simp only [Act.put, sT, sS, sZ]
  have HS12 : Hid (Kt w [(g10, PP11, 26), (w.heap.size, ZR1, 26)] (w8.setRow (g10) PP11)) := Lib.hid (HS9.out.set (g10) PP11 ZR1 26 (HS9.out.get (g10) ZR1 26 (by simp)) (by omega) (fun p hp => by simp at hp; rcases hp with rfl | rfl <;> first | exact .inl rfl | exact .inr ⟨by simp, by simp only; omega⟩))
  clear HS9
  generalize w8.setRow (g10) PP11 = w11 at *
  refine wpList_nil ?_
  go_upto_region 2 with fail
  refine wp_region_list ?_
  refine wpList_run rfl (.int .u8 (t : Int)) (exec_move (.tmp 1) rfl _ rfl _) ?_
  simp only [Act.put, sT, sS, sZ]
  refine wpList_run rfl (.int .u8 (2 : Int)) (exec_rem4 (.tmp 11) rfl rfl t 2 ht4 rfl _) ?_
  simp only [Act.put, sT, sS, sZ]
  refine wpList_run rfl (.bool false) (exec_eq5 (.tmp 12) (.const (.int .u8 1)) rfl 2 1 false (by decide) rfl rfl _) ?_
  simp only [Act.put, sT, sS, sZ]
  refine wpList_nil ?_
  go_upto_region 4 with fail
  refine wp_region_list ?_
  refine wpList_run rfl (.int .u8 (t : Int)) (exec_move (.tmp 1) rfl _ rfl _) ?_
  simp only [Act.put, sT, sS, sZ]
  refine wpList_run rfl (.int .u8 (2 : Int)) (exec_rem4 (.tmp 20) rfl rfl t 2 ht4 rfl _) ?_
  simp only [Act.put, sT, sS, sZ]
  refine wpList_run rfl (.bool true) (exec_eq5 (.tmp 21) (.const (.int .u8 2)) rfl 2 2 true (by decide) rfl rfl _) ?_
  simp only [Act.put, sT, sS, sZ]
  refine wpList_nil ?_
  go_upto_region 5 with fail
  refine wp_region_list ?_
  refine wpList_run rfl (.agg NN13) (exec_buildN _ 24 #[] rfl #[] (by simp [Act.eval]) _ (BF12 _)) ?_
  simp only [Act.put, sT, sS, sZ]
  refine wpList_run rfl (.agg NN15) (exec_buildN _ 24 #[(0, .const (.int .u64 1))] rfl #[(0, .int .u64 1)] (by simp [Act.eval]) _ (BF14 _)) ?_
  simp only [Act.put, sT, sS, sZ]
  refine wpList_callF rfl 24 #[.tmp 23, .tmp 24] #[24, 24] rfl #[.agg NN13, .agg NN15] en24 (HC16.out _) ?_
  rintro v w13 ⟨he, hb⟩
  cases he
  have HS14 := Lib.hid (HS12.out.below hb)
  clear hb HS12
  simp only [Act.put, sT, sS, sZ]
  refine wpList_callF rfl 35 #[.tmp 25] #[24] rfl #[.agg Pm] en35 (HC19.out _) ?_
  rintro v w15 ⟨he, hb⟩
  cases he
  have HS16 := Lib.hid (HS14.out.below hb)
  clear hb HS14
  simp only [Act.put, sT, sS, sZ]
  refine wpList_run rfl _ (exec_alloc_agg _ 60 rfl _ (HZ60 _)) ?_
  simp only [Act.put, sT, sS, sZ]
  have lg19_0 := HS16.out.lt (g10) PP11 26 (by simp)
  have lg19_1 := HS16.out.lt (w.heap.size) ZR1 26 (by simp)
  have bg19 := HS16.out.1.size
  have HS18 := Lib.hid (HS16.out.new ZR20 60)
  clear HS16
  generalize w15.alloc (.cells ZR20 60) = w17 at *
  generalize w15.heap.size = g19 at *
  refine wpList_run0 rfl (exec_store29 _ (.tmp 6) (.tmp 26) rfl (g19) rfl GT18 IGT18 rfl ZR20 60 (HS18.out.get (g19) ZR20 60 (by simp)) SZZR20) ?_
  simp only [Act.put, sT, sS, sZ]
  have HS21 : Hid (Kt w [(g19, GT18, 60), (g10, PP11, 26), (w.heap.size, ZR1, 26)] (w17.setRow (g19) GT18)) := Lib.hid (HS18.out.set (g19) GT18 ZR20 60 (HS18.out.get (g19) ZR20 60 (by simp)) (by omega) (fun p hp => by simp at hp; rcases hp with rfl | rfl | rfl <;> first | exact .inl rfl | exact .inr ⟨by simp, by simp only; omega⟩))
  clear HS18
  generalize w17.setRow (g19) GT18 = w20 at *
  refine wpList_nil ?_
  go_upto_region 6 with fail
  refine wp_region_list ?_
  refine wpList_run rfl (.agg PP11) (exec_load_of _ 26 (.tmp 5) rfl ⟨g10, 0, none⟩ rfl _ (loadT26 IPP11 (HS21.out.get (g10) PP11 26 (by simp)))) ?_
  simp only [Act.put, sT, sS, sZ]
  refine wpList_run rfl (.pointer (some ⟨g19, 0, none⟩)) (exec_field 60 (.tmp 6) 0 rfl _ _ rfl _ (fa60_0 (g19) _)) ?_
  simp only [Act.put, sT, sS, sZ]
  refine wpList_run rfl (.agg NN17) (exec_load_of _ 24 (.tmp 28) rfl ⟨g19, 0, none⟩ rfl _ (load_part (HS21.out.get (g19) GT18 60 (by simp)) INN17 0 SGT18_0)) ?_
  simp only [Act.put, sT, sS, sZ]
  refine wpList_run rfl (.agg PP22) (exec_buildN _ 26 #[(0, .tmp 29)] rfl #[(0, .agg NN17)] (by simp [Act.eval]) _ (BF21 _)) ?_
  simp only [Act.put, sT, sS, sZ]
  refine wpList_callF rfl 19 #[.tmp 27, .tmp 30] #[26, 26] rfl #[.agg PP11, .agg PP22] en19 (HC23.out _) ?_
  rintro v w22 ⟨he, hb⟩
  cases he
  have HS23 := Lib.hid (HS21.out.below hb)
  clear hb HS21
  simp only [Act.put, sT, sS, sZ]
  refine wpList_run0 rfl (exec_storeT26 _ (.tmp 5) (.tmp 31) rfl (g10) rfl PP26 IPP26 rfl PP11 26 (HS23.out.get (g10) PP11 26 (by simp)) IPP11.sz) ?_
  simp only [Act.put, sT, sS, sZ]
  have HS25 : Hid (Kt w [(g19, GT18, 60), (g10, PP26, 26), (w.heap.size, ZR1, 26)] (w22.setRow (g10) PP26)) := Lib.hid (HS23.out.set (g10) PP26 PP11 26 (HS23.out.get (g10) PP11 26 (by simp)) (by omega) (fun p hp => by simp at hp; rcases hp with rfl | rfl | rfl <;> first | exact .inl rfl | exact .inr ⟨by simp, by simp only; omega⟩))
  clear HS23
  generalize w22.setRow (g10) PP26 = w24 at *
  refine wpList_nil ?_
  have HS26 : Hid (Kt w [(g10, PP26, 26), (w.heap.size, ZR1, 26)] w24) := Lib.hid (HS25.out.sub (fun p hp => by simp at hp; rcases hp with rfl | rfl <;> simp))
  clear HS25
  go_upto_region 7 with fail
  refine wp_region_list ?_
  refine wpList_run rfl (.agg PP26) (exec_load_of _ 26 (.tmp 5) rfl ⟨g10, 0, none⟩ rfl _ (loadT26 IPP26 (HS26.out.get (g10) PP26 26 (by simp)))) ?_
  simp only [Act.put, sT, sS, sZ]
  refine wpList_run0 rfl (exec_storeT26 _ (.tmp 4) (.tmp 32) rfl (w.heap.size) rfl PP26 IPP26 rfl ZR1 26 (HS26.out.get (w.heap.size) ZR1 26 (by simp)) SZZR1) ?_
  simp only [Act.put, sT, sS, sZ]
  have HS28 : Hid (Kt w [(g10, PP26, 26), (w.heap.size, PP26, 26)] (w24.setRow (w.heap.size) PP26)) := Lib.hid (HS26.out.set (w.heap.size) PP26 ZR1 26 (HS26.out.get (w.heap.size) ZR1 26 (by simp)) (by omega) (fun p hp => by simp at hp; rcases hp with rfl | rfl <;> first | exact .inl rfl | exact .inr ⟨by simp, by simp only; omega⟩))
  clear HS26
  generalize w24.setRow (w.heap.size) PP26 = w27 at *
  refine wpList_nil ?_
  go_wp2
  exact bodyPost_ret (results_cell rfl _ _ _ ⟨w.heap.size, 0, none⟩ rfl _ (loadT26 IPP26 (HS28.out.get (w.heap.size) PP26 26 (by simp)))) rfl ⟨rfl, HS28.out.1⟩
set_option maxRecDepth 100000 in
set_option maxHeartbeats 2000000 in
theorem some_3 (a t : Nat) (Wa : a < 18446744073709551616) (ht : t % 4 = 3) (u : Nat) (hu : subF 0 1 = u) (hu4 : u < 115792089237316195423570985008687907853269984665640564039457584007913129639936) (on2 : onN (0, u)) (r : Nat) (hr : (rootF u).1 = r) (on4 : onN (r, 0)) (hl : (rootF u).2 = true) (w : World) :
    Calls Tryd.prog 17 #[.int .u64 (a : Int), .int .u8 (t : Int)] w fun e w' => e = .returned (.agg (num (mulN a baseN).1 ++ num (mulN a baseN).2)) ∧ Below w.heap.size w w' := by
  have ht4 := Lib.hid ht
  have HC4 := Lib.hid (rbase_any)
  have HC8 := Lib.hid (rmul_pt (a) (baseN) (lt64 a Wa) (baseN_on))
  try dsimp only at HC8
  obtain ⟨Pm, hPm⟩ : ∃ zz9, Hid (zz9 = num (u)) := ⟨_, Lib.hid rfl⟩
  have IPm : IsNum Pm := by rw [hPm.out]; exact isNum _
  obtain ⟨ZR1, hZR1⟩ : ∃ zz9, Hid (zz9 = (rowOf .u64 8 (fun _ => 0)).toArray) := ⟨_, Lib.hid rfl⟩
  have SZZR1 : ZR1.size = 8 := by rw [hZR1.out]; rfl
  obtain ⟨NN3, hNN3⟩ : ∃ zz9, Hid (zz9 = num (a)) := ⟨_, Lib.hid rfl⟩
  have INN3 : IsNum NN3 := by rw [hNN3.out]; exact isNum _
  obtain ⟨NN5, hNN5⟩ : ∃ zz9, Hid (zz9 = num ((baseN).1)) := ⟨_, Lib.hid rfl⟩
  have INN5 : IsNum NN5 := by rw [hNN5.out]; exact isNum _
  obtain ⟨NN6, hNN6⟩ : ∃ zz9, Hid (zz9 = num ((baseN).2)) := ⟨_, Lib.hid rfl⟩
  have INN6 : IsNum NN6 := by rw [hNN6.out]; exact isNum _
  obtain ⟨PP7, hPP7⟩ : ∃ zz9, Hid (zz9 = NN5 ++ NN6) := ⟨_, Lib.hid rfl⟩
  have IPP7 : IsRw 8 PP7 := by rw [hPP7.out]; exact rw_app (isRw4 INN5) (isRw4 INN6)
  have SPP7_0 : Part PP7 0 NN5 := by rw [hPP7.out]; exact part_left 0 (part_all NN5) NN6
  have SPP7_4 : Part PP7 4 NN6 := by rw [hPP7.out]; exact part_right (NN5) NN6 4 (by simp [INN5.size])
  obtain ⟨NN9, hNN9⟩ : ∃ zz9, Hid (zz9 = num ((mulN (a) (baseN)).1)) := ⟨_, Lib.hid rfl⟩
  have INN9 : IsNum NN9 := by rw [hNN9.out]; exact isNum _
  obtain ⟨NN10, hNN10⟩ : ∃ zz9, Hid (zz9 = num ((mulN (a) (baseN)).2)) := ⟨_, Lib.hid rfl⟩
  have INN10 : IsNum NN10 := by rw [hNN10.out]; exact isNum _
  obtain ⟨PP11, hPP11⟩ : ∃ zz9, Hid (zz9 = NN9 ++ NN10) := ⟨_, Lib.hid rfl⟩
  have IPP11 : IsRw 8 PP11 := by rw [hPP11.out]; exact rw_app (isRw4 INN9) (isRw4 INN10)
  have SPP11_0 : Part PP11 0 NN9 := by rw [hPP11.out]; exact part_left 0 (part_all NN9) NN10
  have SPP11_4 : Part PP11 4 NN10 := by rw [hPP11.out]; exact part_right (NN9) NN10 4 (by simp [INN9.size])
  have HZ26 : ∀ w, (zeroValue 26).run Tryd.prog w = .ok (.agg ZR1) w := by rw [hZR1.out]; exact zeroT26
  have BF2 : ∀ w, (Instr.build 24 #[(0, .int .u64 (a : Int))]).run Tryd.prog w = .ok (.agg NN3) w := by rw [hNN3.out]; exact build_run a Wa
  try simp only [← hPm.out, ← hNN3.out, ← hNN5.out, ← hNN6.out, ← hNN9.out, ← hNN10.out] at HC4 HC8 ⊢
  try simp only [← hZR1.out, ← hPP7.out, ← hPP11.out] at HC4 HC8 ⊢
  clear hPm hZR1 hNN3 hNN5 hNN6 hPP7 hNN9 hNN10 hPP11 Wa ht hu hu4 on2 hr on4 hl
  go_enter Tryd.func17, Tryd.ntmps17
  have HS : Hid (Kt w [] w) := Lib.hid (Kt.nil w)
  go_upto_region 0 with fail
  refine wp_region_list ?_
  refine wpList_run rfl _ (exec_alloc_agg _ 26 rfl _ (HZ26 _)) ?_
  simp only [Act.put, sT, sS, sZ]
  have bg3 := HS.out.1.size
  have HS2 := Lib.hid (HS.out.new ZR1 26)
  clear HS
  generalize w.alloc (.cells ZR1 26) = w1 at *
  refine wpList_nil ?_
  go_upto_region 1 with fail
  refine wp_region_list ?_
  refine wpList_run rfl (.int .u64 (a : Int)) (exec_move (.tmp 0) rfl _ rfl _) ?_
  simp only [Act.put, sT, sS, sZ]
  refine wpList_run rfl (.agg NN3) (exec_buildN _ 24 #[(0, .tmp 7)] rfl #[(0, .int .u64 (a : Int))] (by simp [Act.eval]) _ (BF2 _)) ?_
  simp only [Act.put, sT, sS, sZ]
  refine wpList_callF rfl 16 #[] #[] rfl #[] en16 (HC4.out _) ?_
  rintro v w4 ⟨he, hb⟩
  cases he
  have HS5 := Lib.hid (HS2.out.below hb)
  clear hb HS2
  simp only [Act.put, sT, sS, sZ]
  refine wpList_callF rfl 21 #[.tmp 8, .tmp 9] #[24, 26] rfl #[.agg NN3, .agg PP7] en21 (HC8.out _) ?_
  rintro v w6 ⟨he, hb⟩
  cases he
  have HS7 := Lib.hid (HS5.out.below hb)
  clear hb HS5
  simp only [Act.put, sT, sS, sZ]
  refine wpList_run rfl _ (exec_alloc_agg _ 26 rfl _ (HZ26 _)) ?_
  simp only [Act.put, sT, sS, sZ]
  have lg10_0 := HS7.out.lt (w.heap.size) ZR1 26 (by simp)
  have bg10 := HS7.out.1.size
  have HS9 := Lib.hid (HS7.out.new ZR1 26)
  clear HS7
  generalize w6.alloc (.cells ZR1 26) = w8 at *
  generalize w6.heap.size = g10 at *
  refine wpList_run0 rfl (exec_storeT26 _ (.tmp 5) (.tmp 10) rfl (g10) rfl PP11 IPP11 rfl ZR1 26 (HS9.out.get (g10) ZR1 26 (by simp)) SZZR1) ?_
  simp only [Act.put, sT, sS, sZ]
  have HS12 : Hid (Kt w [(g10, PP11, 26), (w.heap.size, ZR1, 26)] (w8.setRow (g10) PP11)) := Lib.hid (HS9.out.set (g10) PP11 ZR1 26 (HS9.out.get (g10) ZR1 26 (by simp)) (by omega) (fun p hp => by simp at hp; rcases hp with rfl | rfl <;> first | exact .inl rfl | exact .inr ⟨by simp, by simp only; omega⟩))
  clear HS9
  generalize w8.setRow (g10) PP11 = w11 at *
  refine wpList_nil ?_
  go_upto_region 2 with fail
  refine wp_region_list ?_
  refine wpList_run rfl (.int .u8 (t : Int)) (exec_move (.tmp 1) rfl _ rfl _) ?_
  simp only [Act.put, sT, sS, sZ]
  refine wpList_run rfl (.int .u8 (3 : Int)) (exec_rem4 (.tmp 11) rfl rfl t 3 ht4 rfl _) ?_
  simp only [Act.put, sT, sS, sZ]
  refine wpList_run rfl (.bool false) (exec_eq5 (.tmp 12) (.const (.int .u8 1)) rfl 3 1 false (by decide) rfl rfl _) ?_
  simp only [Act.put, sT, sS, sZ]
  refine wpList_nil ?_
  go_upto_region 4 with fail
  refine wp_region_list ?_
  refine wpList_run rfl (.int .u8 (t : Int)) (exec_move (.tmp 1) rfl _ rfl _) ?_
  simp only [Act.put, sT, sS, sZ]
  refine wpList_run rfl (.int .u8 (3 : Int)) (exec_rem4 (.tmp 20) rfl rfl t 3 ht4 rfl _) ?_
  simp only [Act.put, sT, sS, sZ]
  refine wpList_run rfl (.bool false) (exec_eq5 (.tmp 21) (.const (.int .u8 2)) rfl 3 2 false (by decide) rfl rfl _) ?_
  simp only [Act.put, sT, sS, sZ]
  refine wpList_nil ?_
  go_upto_region 7 with fail
  refine wp_region_list ?_
  refine wpList_run rfl (.agg PP11) (exec_load_of _ 26 (.tmp 5) rfl ⟨g10, 0, none⟩ rfl _ (loadT26 IPP11 (HS12.out.get (g10) PP11 26 (by simp)))) ?_
  simp only [Act.put, sT, sS, sZ]
  refine wpList_run0 rfl (exec_storeT26 _ (.tmp 4) (.tmp 32) rfl (w.heap.size) rfl PP11 IPP11 rfl ZR1 26 (HS12.out.get (w.heap.size) ZR1 26 (by simp)) SZZR1) ?_
  simp only [Act.put, sT, sS, sZ]
  have HS14 : Hid (Kt w [(g10, PP11, 26), (w.heap.size, PP11, 26)] (w11.setRow (w.heap.size) PP11)) := Lib.hid (HS12.out.set (w.heap.size) PP11 ZR1 26 (HS12.out.get (w.heap.size) ZR1 26 (by simp)) (by omega) (fun p hp => by simp at hp; rcases hp with rfl | rfl <;> first | exact .inl rfl | exact .inr ⟨by simp, by simp only; omega⟩))
  clear HS12
  generalize w11.setRow (w.heap.size) PP11 = w13 at *
  refine wpList_nil ?_
  go_wp2
  exact bodyPost_ret (results_cell rfl _ _ _ ⟨w.heap.size, 0, none⟩ rfl _ (loadT26 IPP11 (HS14.out.get (w.heap.size) PP11 26 (by simp)))) rfl ⟨rfl, HS14.out.1⟩
theorem some_any (a t : Nat) (Wa : a < 18446744073709551616) (Wt : t < 256) (w : World) :
    Calls Tryd.prog 17 #[.int .u64 (a : Int), .int .u8 (t : Int)] w fun e w' => e = .returned (.agg (num (someN a t).1 ++ num (someN a t).2)) ∧ Below w.heap.size w w' := by
  unfold someN
  rcases (show t % 4 = 0 ∨ t % 4 = 1 ∨ t % 4 = 2 ∨ t % 4 = 3 by omega) with h | h | h | h
  · rw [if_neg (by omega), if_neg (by omega)]; exact some_0 a t Wa h (pp - 1) sub01 ppm_b4 someN_two _ rfl someN_four rootF_less w
  · rw [if_pos h]; exact some_1 a t Wa h (pp - 1) sub01 ppm_b4 someN_two _ rfl someN_four rootF_less w
  · rw [if_neg (by omega), if_pos h]; exact some_2 a t Wa h (pp - 1) sub01 ppm_b4 someN_two _ rfl someN_four rootF_less w
  · rw [if_neg (by omega), if_neg (by omega)]; exact some_3 a t Wa h (pp - 1) sub01 ppm_b4 someN_two _ rfl someN_four rootF_less w
end Go.Proofs.YtgbliacncahooaaDoor
