/- Several texts, one behind the other; each says by itself what it proves, and on what conditions. -/
import Derived.Test.YtdajmekliodmcaaGreatDoorK18
import Derived.Test.YtdajmekliodmcaaGreatDoorK19
namespace Go.Proofs.YtdajmekliodmcaaGreatDoor.P8
open Go.RowKit Go.Shelf
set_option linter.unusedVariables false
set_option linter.unusedSimpArgs false
set_option maxRecDepth 100000 in
set_option maxHeartbeats 2000000 in
theorem add_any (p q : Nat × Nat) (hp : onN p) (hq : onN q) (w : World) (hG0 : Glob w) :
    Calls Tryz.prog 46 #[.agg (num p.1 ++ num p.2), .agg (num q.1 ++ num q.2)] w fun e w' => e = .returned (.agg (num (addN p q).1 ++ num (addN p q).2)) ∧ Below w.heap.size w w' := by
  have HG := Lib.hid hG0
  rw [← add_plain hp hq]
  simp only [plainR, sumR, overR]
  have HC5 := Lib.hid (over_any (p.1) (p.2) (pp_lt hp.1) (pp_lt hp.2.1))
  have HC8 := Lib.hid (over_any (q.1) (q.2) (pp_lt hq.1) (pp_lt hq.2.1))
  have HC14 : Hid (∀ w, Glob w → _) := Lib.hid (sum_any (p.1) (p.2) (1) (mulF (p.1) (p.2)) (q.1) (q.2) (1) (mulF (q.1) (q.2)) (pp_lt hp.1) (pp_lt hp.2.1) (by decide) (pp_lt (mulF_lt _ _)) (pp_lt hq.1) (pp_lt hq.2.1) (by decide) (pp_lt (mulF_lt _ _)))
  have HC18 := Lib.hid (plain_any (mulF (addF (mulF (p.1) (q.2)) (mulF (p.2) (q.1))) (subF (mulF (1) (1)) (mulF (dN) (mulF (mulF (p.1) (p.2)) (mulF (q.1) (q.2)))))) (mulF (addF (mulF (p.2) (q.2)) (mulF (p.1) (q.1))) (addF (mulF (1) (1)) (mulF (dN) (mulF (mulF (p.1) (p.2)) (mulF (q.1) (q.2)))))) (mulF (addF (mulF (1) (1)) (mulF (dN) (mulF (mulF (p.1) (p.2)) (mulF (q.1) (q.2))))) (subF (mulF (1) (1)) (mulF (dN) (mulF (mulF (p.1) (p.2)) (mulF (q.1) (q.2)))))) (mulF (addF (mulF (p.1) (q.2)) (mulF (p.2) (q.1))) (addF (mulF (p.2) (q.2)) (mulF (p.1) (q.1)))) (pp_lt (mulF_lt _ _)) (pp_lt (mulF_lt _ _)) (pp_lt (mulF_lt _ _)) (pp_lt (mulF_lt _ _)))
  obtain ⟨Px, hPx⟩ : ∃ zz9, Hid (zz9 = num (p.1)) := ⟨_, Lib.hid rfl⟩
  have IPx : IsNum Px := by rw [hPx.out]; exact isNum _
  obtain ⟨Py, hPy⟩ : ∃ zz9, Hid (zz9 = num (p.2)) := ⟨_, Lib.hid rfl⟩
  have IPy : IsNum Py := by rw [hPy.out]; exact isNum _
  obtain ⟨Pa, hPa⟩ : ∃ zz9, Hid (zz9 = Px ++ Py) := ⟨_, Lib.hid rfl⟩
  have IPa : IsRw 8 Pa := by rw [hPa.out]; exact rw_app (isRw4 IPx) (isRw4 IPy)
  have SPa_0 : Part Pa 0 Px := by rw [hPa.out]; exact part_left 0 (part_all Px) Py
  have SPa_4 : Part Pa 4 Py := by rw [hPa.out]; exact part_right (Px) Py 4 (by simp [IPx.size])
  obtain ⟨Qx, hQx⟩ : ∃ zz9, Hid (zz9 = num (q.1)) := ⟨_, Lib.hid rfl⟩
  have IQx : IsNum Qx := by rw [hQx.out]; exact isNum _
  obtain ⟨Qy, hQy⟩ : ∃ zz9, Hid (zz9 = num (q.2)) := ⟨_, Lib.hid rfl⟩
  have IQy : IsNum Qy := by rw [hQy.out]; exact isNum _
  obtain ⟨Qa, hQa⟩ : ∃ zz9, Hid (zz9 = Qx ++ Qy) := ⟨_, Lib.hid rfl⟩
  have IQa : IsRw 8 Qa := by rw [hQa.out]; exact rw_app (isRw4 IQx) (isRw4 IQy)
  have SQa_0 : Part Qa 0 Qx := by rw [hQa.out]; exact part_left 0 (part_all Qx) Qy
  have SQa_4 : Part Qa 4 Qy := by rw [hQa.out]; exact part_right (Qx) Qy 4 (by simp [IQx.size])
  obtain ⟨ZR1, hZR1⟩ : ∃ zz9, Hid (zz9 = (rowOf .u64 8 (fun _ => 0)).toArray) := ⟨_, Lib.hid rfl⟩
  have SZZR1 : ZR1.size = 8 := by rw [hZR1.out]; rfl
  obtain ⟨NN2, hNN2⟩ : ∃ zz9, Hid (zz9 = num (1)) := ⟨_, Lib.hid rfl⟩
  have INN2 : IsNum NN2 := by rw [hNN2.out]; exact isNum _
  obtain ⟨NN3, hNN3⟩ : ∃ zz9, Hid (zz9 = num (mulF (p.1) (p.2))) := ⟨_, Lib.hid rfl⟩
  have INN3 : IsNum NN3 := by rw [hNN3.out]; exact isNum _
  obtain ⟨PP4, hPP4⟩ : ∃ zz9, Hid (zz9 = Px ++ Py ++ NN2 ++ NN3) := ⟨_, Lib.hid rfl⟩
  have IPP4 : IsRw 16 PP4 := by rw [hPP4.out]; exact rw_app (rw_app (rw_app (isRw4 IPx) (isRw4 IPy)) (isRw4 INN2)) (isRw4 INN3)
  have SPP4_0 : Part PP4 0 Px := by rw [hPP4.out]; exact part_left 0 (part_left 0 (part_left 0 (part_all Px) Py) NN2) NN3
  have SPP4_4 : Part PP4 4 Py := by rw [hPP4.out]; exact part_left 4 (part_left 4 (part_right (Px) Py 4 (by simp [IPx.size])) NN2) NN3
  have SPP4_8 : Part PP4 8 NN2 := by rw [hPP4.out]; exact part_left 8 (part_right (Px ++ Py) NN2 8 (by simp [IPx.size, IPy.size])) NN3
  have SPP4_12 : Part PP4 12 NN3 := by rw [hPP4.out]; exact part_right (Px ++ Py ++ NN2) NN3 12 (by simp [IPx.size, IPy.size, INN2.size])
  obtain ⟨NN6, hNN6⟩ : ∃ zz9, Hid (zz9 = num (mulF (q.1) (q.2))) := ⟨_, Lib.hid rfl⟩
  have INN6 : IsNum NN6 := by rw [hNN6.out]; exact isNum _
  obtain ⟨PP7, hPP7⟩ : ∃ zz9, Hid (zz9 = Qx ++ Qy ++ NN2 ++ NN6) := ⟨_, Lib.hid rfl⟩
  have IPP7 : IsRw 16 PP7 := by rw [hPP7.out]; exact rw_app (rw_app (rw_app (isRw4 IQx) (isRw4 IQy)) (isRw4 INN2)) (isRw4 INN6)
  have SPP7_0 : Part PP7 0 Qx := by rw [hPP7.out]; exact part_left 0 (part_left 0 (part_left 0 (part_all Qx) Qy) NN2) NN6
  have SPP7_4 : Part PP7 4 Qy := by rw [hPP7.out]; exact part_left 4 (part_left 4 (part_right (Qx) Qy 4 (by simp [IQx.size])) NN2) NN6
  have SPP7_8 : Part PP7 8 NN2 := by rw [hPP7.out]; exact part_left 8 (part_right (Qx ++ Qy) NN2 8 (by simp [IQx.size, IQy.size])) NN6
  have SPP7_12 : Part PP7 12 NN6 := by rw [hPP7.out]; exact part_right (Qx ++ Qy ++ NN2) NN6 12 (by simp [IQx.size, IQy.size, INN2.size])
  obtain ⟨NN9, hNN9⟩ : ∃ zz9, Hid (zz9 = num (mulF (addF (mulF (p.1) (q.2)) (mulF (p.2) (q.1))) (subF (mulF (1) (1)) (mulF (dN) (mulF (mulF (p.1) (p.2)) (mulF (q.1) (q.2))))))) := ⟨_, Lib.hid rfl⟩
  have INN9 : IsNum NN9 := by rw [hNN9.out]; exact isNum _
  obtain ⟨NN10, hNN10⟩ : ∃ zz9, Hid (zz9 = num (mulF (addF (mulF (p.2) (q.2)) (mulF (p.1) (q.1))) (addF (mulF (1) (1)) (mulF (dN) (mulF (mulF (p.1) (p.2)) (mulF (q.1) (q.2))))))) := ⟨_, Lib.hid rfl⟩
  have INN10 : IsNum NN10 := by rw [hNN10.out]; exact isNum _
  obtain ⟨NN11, hNN11⟩ : ∃ zz9, Hid (zz9 = num (mulF (addF (mulF (1) (1)) (mulF (dN) (mulF (mulF (p.1) (p.2)) (mulF (q.1) (q.2))))) (subF (mulF (1) (1)) (mulF (dN) (mulF (mulF (p.1) (p.2)) (mulF (q.1) (q.2))))))) := ⟨_, Lib.hid rfl⟩
  have INN11 : IsNum NN11 := by rw [hNN11.out]; exact isNum _
  obtain ⟨NN12, hNN12⟩ : ∃ zz9, Hid (zz9 = num (mulF (addF (mulF (p.1) (q.2)) (mulF (p.2) (q.1))) (addF (mulF (p.2) (q.2)) (mulF (p.1) (q.1))))) := ⟨_, Lib.hid rfl⟩
  have INN12 : IsNum NN12 := by rw [hNN12.out]; exact isNum _
  obtain ⟨PP13, hPP13⟩ : ∃ zz9, Hid (zz9 = NN9 ++ NN10 ++ NN11 ++ NN12) := ⟨_, Lib.hid rfl⟩
  have IPP13 : IsRw 16 PP13 := by rw [hPP13.out]; exact rw_app (rw_app (rw_app (isRw4 INN9) (isRw4 INN10)) (isRw4 INN11)) (isRw4 INN12)
  have SPP13_0 : Part PP13 0 NN9 := by rw [hPP13.out]; exact part_left 0 (part_left 0 (part_left 0 (part_all NN9) NN10) NN11) NN12
  have SPP13_4 : Part PP13 4 NN10 := by rw [hPP13.out]; exact part_left 4 (part_left 4 (part_right (NN9) NN10 4 (by simp [INN9.size])) NN11) NN12
  have SPP13_8 : Part PP13 8 NN11 := by rw [hPP13.out]; exact part_left 8 (part_right (NN9 ++ NN10) NN11 8 (by simp [INN9.size, INN10.size])) NN12
  have SPP13_12 : Part PP13 12 NN12 := by rw [hPP13.out]; exact part_right (NN9 ++ NN10 ++ NN11) NN12 12 (by simp [INN9.size, INN10.size, INN11.size])
  obtain ⟨NN15, hNN15⟩ : ∃ zz9, Hid (zz9 = num (mulF (mulF (addF (mulF (p.1) (q.2)) (mulF (p.2) (q.1))) (subF (mulF (1) (1)) (mulF (dN) (mulF (mulF (p.1) (p.2)) (mulF (q.1) (q.2)))))) (invF (mulF (addF (mulF (1) (1)) (mulF (dN) (mulF (mulF (p.1) (p.2)) (mulF (q.1) (q.2))))) (subF (mulF (1) (1)) (mulF (dN) (mulF (mulF (p.1) (p.2)) (mulF (q.1) (q.2))))))))) := ⟨_, Lib.hid rfl⟩
  have INN15 : IsNum NN15 := by rw [hNN15.out]; exact isNum _
  obtain ⟨NN16, hNN16⟩ : ∃ zz9, Hid (zz9 = num (mulF (mulF (addF (mulF (p.2) (q.2)) (mulF (p.1) (q.1))) (addF (mulF (1) (1)) (mulF (dN) (mulF (mulF (p.1) (p.2)) (mulF (q.1) (q.2)))))) (invF (mulF (addF (mulF (1) (1)) (mulF (dN) (mulF (mulF (p.1) (p.2)) (mulF (q.1) (q.2))))) (subF (mulF (1) (1)) (mulF (dN) (mulF (mulF (p.1) (p.2)) (mulF (q.1) (q.2))))))))) := ⟨_, Lib.hid rfl⟩
  have INN16 : IsNum NN16 := by rw [hNN16.out]; exact isNum _
  obtain ⟨PP17, hPP17⟩ : ∃ zz9, Hid (zz9 = NN15 ++ NN16) := ⟨_, Lib.hid rfl⟩
  have IPP17 : IsRw 8 PP17 := by rw [hPP17.out]; exact rw_app (isRw4 INN15) (isRw4 INN16)
  have SPP17_0 : Part PP17 0 NN15 := by rw [hPP17.out]; exact part_left 0 (part_all NN15) NN16
  have SPP17_4 : Part PP17 4 NN16 := by rw [hPP17.out]; exact part_right (NN15) NN16 4 (by simp [INN15.size])
  have HZ26 : ∀ w, (zeroValue 60).run Tryz.prog w = .ok (.agg ZR1) w := by rw [hZR1.out]; exact zeroT26
  try simp only [← hPx.out, ← hPy.out, ← hQx.out, ← hQy.out, ← hNN2.out, ← hNN3.out, ← hNN6.out, ← hNN9.out, ← hNN10.out, ← hNN11.out, ← hNN12.out, ← hNN15.out, ← hNN16.out] at HC5 HC8 HC14 HC18 ⊢
  try simp only [← hPP4.out, ← hPP7.out, ← hPP13.out] at HC5 HC8 HC14 HC18 ⊢
  try simp only [← hPa.out, ← hQa.out, ← hZR1.out, ← hPP17.out] at HC5 HC8 HC14 HC18 ⊢
  clear hPx hPy hPa hQx hQy hQa hZR1 hNN2 hNN3 hPP4 hNN6 hPP7 hNN9 hNN10 hNN11 hNN12 hPP13 hNN15 hNN16 hPP17 hp hq hG0
  go_enter Tryz.func46, Tryz.ntmps46
  have HS : Hid (Kt w [] w) := Lib.hid (Kt.nil w)
  go_upto_region 0 with fail
  refine wp_region_list ?_
  refine wpList_run rfl _ (exec_box _ 60 (.tmp 0) rfl _ rfl (Pa) rfl) ?_
  simp only [Act.put, sT, sS, sZ]
  have bg3 := HS.out.1.size
  have HS2 := Lib.hid (HS.out.new Pa 60)
  clear HS
  generalize w.alloc (.cells Pa 60) = w1 at *
  refine wpList_run rfl _ (exec_box _ 60 (.tmp 1) rfl _ rfl (Qa) rfl) ?_
  simp only [Act.put, sT, sS, sZ]
  have lg6_0 := HS2.out.lt (w.heap.size) Pa 60 (by simp)
  have bg6 := HS2.out.1.size
  have HS5 := Lib.hid (HS2.out.new Qa 60)
  clear HS2
  generalize w1.alloc (.cells Qa 60) = w4 at *
  generalize w1.heap.size = g6 at *
  refine wpList_run rfl _ (exec_alloc_agg _ 60 rfl _ (HZ26 _)) ?_
  simp only [Act.put, sT, sS, sZ]
  have lg9_0 := HS5.out.lt (g6) Qa 60 (by simp)
  have lg9_1 := HS5.out.lt (w.heap.size) Pa 60 (by simp)
  have bg9 := HS5.out.1.size
  have HS8 := Lib.hid (HS5.out.new ZR1 60)
  clear HS5
  generalize w4.alloc (.cells ZR1 60) = w7 at *
  generalize w4.heap.size = g9 at *
  refine wpList_nil ?_
  go_upto_region 1 with fail
  refine wp_cut (fun a' W' => a' = { tmps := #[.agg Pa, .agg Qa, .pointer (some ⟨w.heap.size, 0, none⟩), .pointer (some ⟨g6, 0, none⟩), .pointer (some ⟨g9, 0, none⟩), .agg Pa, .agg PP4, .agg Qa, .agg PP7, .agg PP13, .agg PP17], defers := [] } ∧ Kt w [(g9, PP17, 60)] W') ?_ ?_
  · refine wp_region_any (by kernel_rfl) ?_
    change wpAny _ _ _ _ _ _ _ (World.drew _)
    have HDq10x1 := HS8.out.drew
    clear HS8
    generalize w7.drew = wdq10x2 at *
    refine any_of_F (S := Kt w [(g9, ZR1, 60), (g6, Qa, 60), (w.heap.size, Pa, 60)]) (f := 6) _ _ _ _ ?_
    refine tkL 0 (some 5) (.load 60 (.tmp 2)) (.agg Pa) (fun o ho w2 hw => exec_load_of _ 60 (.tmp 2) ho ⟨w.heap.size, 0, none⟩ rfl _ (loadT26 IPa (hw.get (w.heap.size) Pa 60 (by simp)))) HDq10x1 ?_
    simp only [Act.put, sT, sS, sZ]
    refine tkL 2 (some 7) (.load 60 (.tmp 3)) (.agg Qa) (fun o ho w2 hw => exec_load_of _ 60 (.tmp 3) ho ⟨g6, 0, none⟩ rfl _ (loadT26 IQa (hw.get (g6) Qa 60 (by simp)))) HDq10x1 ?_
    simp only [Act.put, sT, sS, sZ]
    refine rdy [1] (rcl (some 6) 92 #[.tmp 5] #[60] #[.agg Pa] en45 _ (HC5.out _) ?_ ReadyF.nil)
    rintro v wq10x11 ⟨he, hb⟩
    cases he
    have Hq10x12 := HDq10x1.below hb
    clear hb
    refine ⟨Hq10x12, ?_⟩
    simp only [Act.put, sT, sS, sZ]
    refine rdy [3] (rcl (some 8) 92 #[.tmp 7] #[60] #[.agg Qa] en45 _ (HC8.out _) ?_ ReadyF.nil)
    rintro v wq10x13 ⟨he, hb⟩
    cases he
    have Hq10x14 := Hq10x12.below hb
    clear hb
    refine ⟨Hq10x14, ?_⟩
    simp only [Act.put, sT, sS, sZ]
    refine rdy [4] (rcl (some 9) 91 #[.tmp 6, .tmp 8] #[103, 103] #[.agg PP4, .agg PP7] en44 _ (HC14.out _ (HG.out.below Hq10x14.1)) ?_ ReadyF.nil)
    rintro v wq10x15 ⟨he, hb⟩
    cases he
    have Hq10x16 := Hq10x14.below hb
    clear hb
    refine ⟨Hq10x16, ?_⟩
    simp only [Act.put, sT, sS, sZ]
    refine rdy [5] (rcl (some 10) 90 #[.tmp 9] #[103] #[.agg PP13] en43 _ (HC18.out _) ?_ ReadyF.nil)
    rintro v wq10x17 ⟨he, hb⟩
    cases he
    have Hq10x18 := Hq10x16.below hb
    clear hb
    refine ⟨Hq10x18, ?_⟩
    simp only [Act.put, sT, sS, sZ]
    refine rdy [6] (ReadyF.last (.store 60 (.tmp 4) (.tmp 10)) rfl (fun o ho => exec_storeT26 wq10x17 (.tmp 4) (.tmp 10) ho (g9) rfl PP17 IPP17 rfl ZR1 60 (Hq10x18.get (g9) ZR1 60 (by simp)) SZZR1) ?_ ReadyF.nil)
    refine any_doneF (by kernel_rfl) ?_ _
    have Hq10x19 : Kt w [(g9, PP17, 60), (g6, Qa, 60), (w.heap.size, Pa, 60)] (wq10x17.setRow (g9) PP17) := Hq10x18.set (g9) PP17 ZR1 60 (Hq10x18.get (g9) ZR1 60 (by simp)) (by omega) (fun p hp => by simp at hp; rcases hp with rfl | rfl | rfl <;> first | exact .inl rfl | exact .inr ⟨by simp, by simp only; omega⟩)
    refine nrm_intro ⟨rfl, Hq10x19.sub (fun p hp => by simp at hp; subst hp; simp)⟩
  rintro a' w11 ⟨rfl, hk⟩
  have HS12 := Lib.hid hk
  clear hk HS8
  go_wp2
  exact bodyPost_ret (results_cell rfl _ _ _ ⟨g9, 0, none⟩ rfl _ (loadT26 IPP17 (HS12.out.get (g9) PP17 60 (by simp)))) rfl ⟨rfl, HS12.out.1⟩
theorem turn_load {l : List (Nat × Array Value)} {w0 w : World} (hG : GlobT w0) (T : Array Value) (hT : Hid (T = num tn)) (hk : Kn w0 l w) : (loadVar 36 ⟨3, 0, none⟩).run Tryz.prog w = .ok (.agg T) w := by
  rw [hT.out]
  exact (hG.kn hk).load
set_option maxRecDepth 100000 in
set_option maxHeartbeats 1000000 in
theorem root_any (a : Nat) (ha : a < 115792089237316195423570985008687907853269984665640564039457584007913129639936) (w : World) (hG0 : GlobT w) :
    Calls Tryz.prog 132 #[.agg (num a)] w fun e w' => e = .returned (.tuple #[.agg (num (rootF a).1), .bool (rootF a).2]) ∧ Below w.heap.size w w' := by
  have hG := Lib.hid hG0
  have hN4 : a % pp < 115792089237316195423570985008687907853269984665640564039457584007913129639936 := pp_lt (Nat.mod_lt _ pp_pos)
  have H1 := Lib.hid (norm_any a ha)
  have H2 := Lib.hid (ones_any (a % pp) 251 hN4 (by decide) (by decide))
  have H3 := Lib.hid (squared_any (onF (a % pp) 251) 1 (onF_lt _ _ hN4) (by decide))
  rw [rootR_is] at H3
  have H4 := Lib.hid (mulf_any (rootR a) (rootR a) (pp_lt (rootR_lt a)) (pp_lt (rootR_lt a)))
  have H5 := Lib.hid (mulf_any (rootR a) tn (pp_lt (rootR_lt a)) (by decide))
  have H6 := Lib.hid (mulf_any (rootT a) (rootT a) (pp_lt (rootT_lt a)) (pp_lt (rootT_lt a)))
  have H7 := Lib.hid (subf_any 0 (rootT a) (by decide) (pp_lt (rootT_lt a)))
  have hb0 := build0_run
  have HZ := zero_run
  have hrm4 : mulF (rootR a) (rootR a) < 115792089237316195423570985008687907853269984665640564039457584007913129639936 := pp_lt (mulF_lt _ _)
  have htm4 : mulF (rootT a) (rootT a) < 115792089237316195423570985008687907853269984665640564039457584007913129639936 := pp_lt (mulF_lt _ _)
  have hRT : Hid (rootT a = if mulF (rootR a) (rootR a) = a % pp then rootR a else mulF (rootR a) tn) := Lib.hid rfl
  have hRF : Hid (rootF a = if mulF (rootT a) (rootT a) = a % pp then (if rootT a % 2 = 1 then subF 0 (rootT a) else rootT a, true) else (0, false)) := Lib.hid rfl
  have hc0 : (num (rootT a))[0]? = some (.int .u64 (dig (rootT a) 0 : Int)) := num_get _ 0 (by decide)
  have hod := dig0_odd (rootT a)
  generalize dig (rootT a) 0 = d at *
  obtain ⟨A, hA⟩ : ∃ A, Hid (A = num a) := ⟨_, Lib.hid rfl⟩
  have IA : IsNum A := by rw [hA.out]; exact isNum _
  obtain ⟨N, hN⟩ : ∃ N, Hid (N = num (a % pp)) := ⟨_, Lib.hid rfl⟩
  have IN : IsNum N := by rw [hN.out]; exact isNum _
  obtain ⟨O, hO⟩ : ∃ O, Hid (O = num (onF (a % pp) 251)) := ⟨_, Lib.hid rfl⟩
  have IOo : IsNum O := by rw [hO.out]; exact isNum _
  obtain ⟨R, hR⟩ : ∃ R, Hid (R = num (rootR a)) := ⟨_, Lib.hid rfl⟩
  have IR : IsNum R := by rw [hR.out]; exact isNum _
  obtain ⟨RR, hRR⟩ : ∃ RR, Hid (RR = num (mulF (rootR a) (rootR a))) := ⟨_, Lib.hid rfl⟩
  have IRR : IsNum RR := by rw [hRR.out]; exact isNum _
  obtain ⟨T, hT⟩ : ∃ T, Hid (T = num tn) := ⟨_, Lib.hid rfl⟩
  have IT : IsNum T := by rw [hT.out]; exact isNum _
  obtain ⟨S, hS⟩ : ∃ S, Hid (S = num (mulF (rootR a) tn)) := ⟨_, Lib.hid rfl⟩
  have IS : IsNum S := by rw [hS.out]; exact isNum _
  obtain ⟨X, hX⟩ : ∃ X, Hid (X = num (rootT a)) := ⟨_, Lib.hid rfl⟩
  have IX : IsNum X := by rw [hX.out]; exact isNum _
  obtain ⟨XX, hXX⟩ : ∃ XX, Hid (XX = num (mulF (rootT a) (rootT a))) := ⟨_, Lib.hid rfl⟩
  have IXX : IsNum XX := by rw [hXX.out]; exact isNum _
  obtain ⟨Y, hY⟩ : ∃ Y, Hid (Y = num (subF 0 (rootT a))) := ⟨_, Lib.hid rfl⟩
  have IY : IsNum Y := by rw [hY.out]; exact isNum _
  obtain ⟨Z, hZ⟩ : ∃ Z, Hid (Z = num 0) := ⟨_, Lib.hid rfl⟩
  have IZ : IsNum Z := by rw [hZ.out]; exact isNum _
  rw [← hA.out, ← hN.out] at H1
  rw [← hN.out, ← hO.out] at H2
  rw [← hO.out, ← hR.out] at H3
  rw [← hR.out, ← hRR.out] at H4
  rw [← hR.out, ← hT.out, ← hS.out] at H5
  rw [← hX.out, ← hXX.out] at H6
  rw [← hZ.out, ← hX.out, ← hY.out] at H7
  rw [← hZ.out] at hb0
  rw [← hX.out] at hc0
  have HB0 := Lib.hid hb0
  have HZ2 : ∀ w, (zeroValue 36).run Tryz.prog w = .ok (.agg Z) w := by rw [hZ.out]; exact HZ
  have IZ2 := IZ.size
  rw [← hA.out]
  have HTL : Hid (∀ (l : List (Nat × Array Value)) (W : World), Kn w l W → (loadVar 36 ⟨3, 0, none⟩).run Tryz.prog W = .ok (.agg T) W) := Lib.hid (fun l W hk => turn_load hG0 T hT hk)
  have hN5 : a % pp < 115792089237316195423570985008687907853269984665640564039457584007913129639936 := hN4
  clear HZ hb0 hG0 hN4 ha hG
  have HS : Hid (Kn w [(w.heap.size, A), (w.heap.size + 1, Z)] ((w.alloc (.cells A 36)).alloc (.cells Z 36))) := by
    have h := ((Kn.nil w).new A).new Z
    simp only [World.size_alloc] at h
    exact Lib.hid (h.sub (fun p hp => by simp at hp ⊢; rcases hp with h | h <;> simp [h]))
  go_enter Tryz.func132, Tryz.ntmps132
  go_upto_region 1 with ((refine wpList_run rfl _ (exec_alloc_agg _ 36 rfl _ (HZ2 _)) ?_); try simp only [World.size_alloc])
  try simp only [Act.put, sT, sS, sZ]
  generalize (w.alloc (.cells A 36)).alloc (.cells Z 36) = W0 at *
  have hL1 := HS.out.load (w.heap.size) A (by simp) IA
  go_wp2_with (refine wpList_run rfl _ (exec_load_of _ 36 (.tmp 1) rfl ⟨w.heap.size, 0, none⟩ rfl (.agg A) hL1) ?_)
  clear hL1
  refine (H1.out _).mono ?_
  rintro e w1 ⟨rfl, hb⟩
  have HS1 := Lib.hid (HS.out.below hb)
  clear hb HS H1
  go_upto_region 2 with (refine wpList_run0 rfl (exec_store_kn (w0 := w) (l := [(w.heap.size, A), (w.heap.size + 1, Z)]) _ HS1.out (.tmp 1) (.tmp 6) rfl (w.heap.size) rfl N IN rfl A IA (by simp)) ?_)
  try simp only [Act.put, sT, sS, sZ]
  have HS2 : Hid (Kn w [(w.heap.size, N), (w.heap.size + 1, Z)] (w1.setRow (w.heap.size) N)) := Lib.hid (HS1.out.set (w.heap.size) N A (HS1.out.get (w.heap.size) A (by simp)) (by omega) (fun p hp => by simp at hp; rcases hp with rfl | rfl <;> simp))
  clear HS1
  generalize w1.setRow (w.heap.size) N = W1 at *
  have hL1 := HS2.out.load (w.heap.size) N (by simp) IN
  go_wp2_with (refine wpList_run rfl _ (exec_load_of _ 36 (.tmp 1) rfl ⟨w.heap.size, 0, none⟩ rfl (.agg N) hL1) ?_)
  clear hL1
  refine (H2.out _).mono ?_
  rintro e w2 ⟨rfl, hb⟩
  have HS3 := Lib.hid (HS2.out.below hb)
  clear hb HS2 H2
  go_wp2_with fail
  refine (H3.out _).mono ?_
  rintro e w3 ⟨rfl, hb⟩
  have HS4 := Lib.hid (HS3.out.below hb)
  clear hb HS3 H3
  have hgR : w.heap.size + 1 < w3.heap.size := HS4.out.lt (w.heap.size + 1) Z (by simp)
  have HS5_ : Kn w [(w.heap.size, N), (w.heap.size + 1, Z), (w3.heap.size, R)] (w3.alloc (.cells R 36)) := (HS4.out.new R).sub (fun p hp => by simp at hp ⊢; rcases hp with h | h | h <;> simp [h])
  have HS5 := Lib.hid HS5_
  clear HS5_ HS4
  go_upto_region 3 with (first | ((refine wpList_run rfl _ (exec_alloc_agg _ 36 rfl _ (HZ2 _)) ?_); try simp only [World.size_alloc]) | (refine wpList_run0 rfl (exec_new24 _ (.tmp 4) (.tmp 9) rfl _ _ rfl R IR rfl IZ2) ?_))
  try simp only [Act.put, sT, sS, sZ]
  generalize w3.alloc (.cells R 36) = W3 at *
  generalize w3.heap.size = gR at *
  by_cases hc1 : mulF (rootR a) (rootR a) = a % pp
  · have hXR : Hid (R = X) := by unfold Hid; rw [hR.out, hX.out, hRT.out, if_pos hc1]
    have hd3 : decide (mulF (rootT a) (rootT a) = a % pp) = !false := by rw [hRT.out, if_pos hc1]; simp [hc1]
    rw [hXR.out] at HS5 ⊢
    clear hXR hc1 hRT H4 H5
    refine wp_nrm ?_
    refine wp_region_any (by kernel_rfl) ?_
    change wpAny _ _ _ _ _ _ _ (World.drew _)
    have HD := HS5.out.drew
    generalize W3.drew = Wd at *
    refine any_of_F (S := Kn w [(w.heap.size, N), (w.heap.size + 1, Z), (gR, X)]) (f := 1000) _ _ _ _ ?_
    refine tkG 0 (some 10) (.load 36 (.tmp 4)) none (.agg X) (fun o ho w2 hw => exec_load_of _ 36 (.tmp 4) ho ⟨gR, 0, none⟩ rfl _ (hw.load (gR) X (by simp) IX)) HD ?_
    simp only [Act.put, sT, sS, sZ]
    refine tkG 1 (some 11) (.load 36 (.tmp 4)) none (.agg X) (fun o ho w2 hw => exec_load_of _ 36 (.tmp 4) ho ⟨gR, 0, none⟩ rfl _ (hw.load (gR) X (by simp) IX)) HD ?_
    simp only [Act.put, sT, sS, sZ]
    refine tkG 3 (some 13) (.load 36 (.tmp 1)) none (.agg N) (fun o ho w2 hw => exec_load_of _ 36 (.tmp 1) ho ⟨w.heap.size, 0, none⟩ rfl _ (hw.load (w.heap.size) N (by simp) IN)) HD ?_
    simp only [Act.put, sT, sS, sZ]
    refine rdy [2] (rcl (some 12) 130 #[.tmp 10, .tmp 11] #[36, 36] #[.agg X, .agg X] enters40 _ (H6.out _) ?_ ReadyF.nil)
    rintro v ws1 ⟨he, hb⟩
    cases he
    have Hs2 := HD.below hb
    clear hb
    refine ⟨Hs2, ?_⟩
    simp only [Act.put, sT, sS, sZ]
    refine tkG 4 (some 14) (.binOp .neq 36 (.tmp 12) (.tmp 13) 36) none (.bool false) (fun o ho w2 hw => exec_neqL (.tmp 12) (.tmp 13) ho _ _ htm4 hN5 XX N hXX hN rfl rfl false hd3 w2) Hs2 ?_
    simp only [Act.put, sT, sS, sZ]
    refine AnyF.done (by kernel_rfl) ?_ _
    refine nrm_intro ?_
    have HSc := Lib.hid Hs2
    go_upto_region 5 with fail
    try simp only [Act.put, sT, sS, sZ]
    by_cases hc2 : mulF (rootT a) (rootT a) = a % pp
    · by_cases hod1 : rootT a % 2 = 1
      · have hrf : Hid (rootF a = (subF 0 (rootT a), true)) := by unfold Hid; rw [hRF.out, if_pos hc2, if_pos hod1]
        have hod2 : d % 2 = 1 := by omega
        have hdc : decide (mulF (rootT a) (rootT a) = a % pp) = !false := by simp [hc2]
        clear hRF hc2 hod1
        refine wp_nrm ?_
        refine wp_region_any (by kernel_rfl) ?_
        change wpAny _ _ _ _ _ _ _ (World.drew _)
        have HD := HSc.out.drew
        generalize ws1.drew = Wd at *
        refine any_of_F (S := Kn w [(w.heap.size, N), (w.heap.size + 1, Z), (gR, X)]) (f := 1000) _ _ _ _ ?_
        refine tkG 0 (some 18) (.load 36 (.tmp 4)) none (.agg X) (fun o ho w2 hw => exec_load_of _ 36 (.tmp 4) ho ⟨gR, 0, none⟩ rfl _ (hw.load (gR) X (by simp) IX)) HD ?_
        simp only [Act.put, sT, sS, sZ]
        refine tkG 1 (some 19) (.load 36 (.tmp 4)) none (.agg X) (fun o ho w2 hw => exec_load_of _ 36 (.tmp 4) ho ⟨gR, 0, none⟩ rfl _ (hw.load (gR) X (by simp) IX)) HD ?_
        simp only [Act.put, sT, sS, sZ]
        refine tkG 3 (some 21) (.load 36 (.tmp 1)) none (.agg N) (fun o ho w2 hw => exec_load_of _ 36 (.tmp 1) ho ⟨w.heap.size, 0, none⟩ rfl _ (hw.load (w.heap.size) N (by simp) IN)) HD ?_
        simp only [Act.put, sT, sS, sZ]
        refine rdy [2] (rcl (some 20) 130 #[.tmp 18, .tmp 19] #[36, 36] #[.agg X, .agg X] enters40 _ (H6.out _) ?_ ReadyF.nil)
        rintro v wu1 ⟨he, hb⟩
        cases he
        have Hu2 := HD.below hb
        clear hb
        refine ⟨Hu2, ?_⟩
        simp only [Act.put, sT, sS, sZ]
        refine tkG 4 (some 22) (.binOp .neq 36 (.tmp 20) (.tmp 21) 36) none (.bool false) (fun o ho w2 hw => exec_neqL (.tmp 20) (.tmp 21) ho _ _ htm4 hN5 XX N hXX hN rfl rfl false hdc w2) Hu2 ?_
        simp only [Act.put, sT, sS, sZ]
        refine AnyF.done (by kernel_rfl) ?_ _
        refine nrm_intro ?_
        have hcell := (Hu2.cell gR X (by simp) 0).trans hc0
        go_wp2_with (first | (refine wpList_run rfl _ (exec_indexAddr24 (.tmp 4) (.const (.int .i64 0)) rfl gR 0 rfl rfl (by decide) _) ?_) | (refine wpList_run rfl _ (exec_load_one _ 34 (.tmp 24) rfl ⟨gR, 0, none⟩ rfl _ hcell _ Tryz.underlying34 rfl) ?_) | (refine wpList_run rfl _ (exec_rem2 (.tmp 25) rfl rfl d 1 hod2 rfl _) ?_) | (refine wpList_run rfl _ (exec_build0 rfl (.agg Z) (HB0.out _) _) ?_) | (refine wpList_run rfl _ (exec_load_of _ 36 (.tmp 4) rfl ⟨gR, 0, none⟩ rfl (.agg X) ?L4) ?_))
        case L4 => exact Hu2.load gR X (by simp) IX
        have HSa := Lib.hid Hu2
        refine (H7.out _).mono ?_
        rintro e w9 ⟨rfl, hb⟩
        have HSb := Lib.hid (HSa.out.below hb)
        clear hb HSa H7
        go_upto_region 9 with (refine wpList_run0 rfl (exec_store_kn (w0 := w) (l := [(w.heap.size, N), (w.heap.size + 1, Z), (gR, X)]) _ HSb.out (.tmp 4) (.tmp 30) rfl (gR) rfl Y IY rfl X IX (by simp)) ?_)
        try simp only [Act.put, sT, sS, sZ]
        have HSc : Hid (Kn w [(w.heap.size, N), (w.heap.size + 1, Z), (gR, Y)] (w9.setRow gR Y)) := Lib.hid (HSb.out.set gR Y X (HSb.out.get gR X (by simp)) (by omega) (fun p hp => by simp at hp; rcases hp with rfl | rfl | rfl <;> simp <;> omega))
        clear HSb
        generalize w9.setRow gR Y = W9 at *
        have hL4 := HSc.out.load gR Y (by simp) IY
        go_wp2_with (first | (refine wpList_run rfl _ (exec_load_of _ 36 (.tmp 4) rfl ⟨gR, 0, none⟩ rfl (.agg Y) hL4) ?_) | (refine wpList_run0 rfl (exec_store_kn (w0 := w) (l := [(w.heap.size, N), (w.heap.size + 1, Z), (gR, Y)]) _ HSc.out (.tmp 2) (.tmp 31) rfl (w.heap.size + 1) rfl Y IY rfl Z IZ (by simp)) ?_))
        have HSZ : Kn w [(w.heap.size + 1, Y)] (World.setRow _ (w.heap.size + 1) Y) := HSc.out.set (w.heap.size + 1) Y Z (HSc.out.get (w.heap.size + 1) Z (by simp)) (by omega) (fun p hp => by simp at hp; subst hp; simp)
        refine bodyPost_ret (results_two rfl _ _ _ ⟨w.heap.size + 1, 0, none⟩ rfl _ (HSZ.load (w.heap.size + 1) Y (by simp) IY)) rfl ⟨?_, HSZ.1⟩
        rw [hrf.out, ← hY.out]
        rfl
      · have hrf : Hid (rootF a = (rootT a, true)) := by unfold Hid; rw [hRF.out, if_pos hc2, if_neg hod1]
        have hod2 : d % 2 = 0 := by omega
        have hdc : decide (mulF (rootT a) (rootT a) = a % pp) = !false := by simp [hc2]
        clear hRF hc2 hod1
        refine wp_nrm ?_
        refine wp_region_any (by kernel_rfl) ?_
        change wpAny _ _ _ _ _ _ _ (World.drew _)
        have HD := HSc.out.drew
        generalize ws1.drew = Wd at *
        refine any_of_F (S := Kn w [(w.heap.size, N), (w.heap.size + 1, Z), (gR, X)]) (f := 1000) _ _ _ _ ?_
        refine tkG 0 (some 18) (.load 36 (.tmp 4)) none (.agg X) (fun o ho w2 hw => exec_load_of _ 36 (.tmp 4) ho ⟨gR, 0, none⟩ rfl _ (hw.load (gR) X (by simp) IX)) HD ?_
        simp only [Act.put, sT, sS, sZ]
        refine tkG 1 (some 19) (.load 36 (.tmp 4)) none (.agg X) (fun o ho w2 hw => exec_load_of _ 36 (.tmp 4) ho ⟨gR, 0, none⟩ rfl _ (hw.load (gR) X (by simp) IX)) HD ?_
        simp only [Act.put, sT, sS, sZ]
        refine tkG 3 (some 21) (.load 36 (.tmp 1)) none (.agg N) (fun o ho w2 hw => exec_load_of _ 36 (.tmp 1) ho ⟨w.heap.size, 0, none⟩ rfl _ (hw.load (w.heap.size) N (by simp) IN)) HD ?_
        simp only [Act.put, sT, sS, sZ]
        refine rdy [2] (rcl (some 20) 130 #[.tmp 18, .tmp 19] #[36, 36] #[.agg X, .agg X] enters40 _ (H6.out _) ?_ ReadyF.nil)
        rintro v wu1 ⟨he, hb⟩
        cases he
        have Hu2 := HD.below hb
        clear hb
        refine ⟨Hu2, ?_⟩
        simp only [Act.put, sT, sS, sZ]
        refine tkG 4 (some 22) (.binOp .neq 36 (.tmp 20) (.tmp 21) 36) none (.bool false) (fun o ho w2 hw => exec_neqL (.tmp 20) (.tmp 21) ho _ _ htm4 hN5 XX N hXX hN rfl rfl false hdc w2) Hu2 ?_
        simp only [Act.put, sT, sS, sZ]
        refine AnyF.done (by kernel_rfl) ?_ _
        refine nrm_intro ?_
        have hcell := (Hu2.cell gR X (by simp) 0).trans hc0
        go_wp2_with (first | (refine wpList_run rfl _ (exec_indexAddr24 (.tmp 4) (.const (.int .i64 0)) rfl gR 0 rfl rfl (by decide) _) ?_) | (refine wpList_run rfl _ (exec_load_one _ 34 (.tmp 24) rfl ⟨gR, 0, none⟩ rfl _ hcell _ Tryz.underlying34 rfl) ?_) | (refine wpList_run rfl _ (exec_rem2 (.tmp 25) rfl rfl d 0 hod2 rfl _) ?_) | (refine wpList_run rfl _ (exec_load_of _ 36 (.tmp 4) rfl ⟨gR, 0, none⟩ rfl (.agg X) ?L4) ?_) | (refine wpList_run0 rfl (exec_store_kn (w0 := w) (l := [(w.heap.size, N), (w.heap.size + 1, Z), (gR, X)]) _ Hu2 (.tmp 2) (.tmp 31) rfl (w.heap.size + 1) rfl X IX rfl Z IZ (by simp)) ?_))
        case L4 => exact Hu2.load gR X (by simp) IX
        have HSZ : Kn w [(w.heap.size + 1, X)] (World.setRow _ (w.heap.size + 1) X) := Hu2.set (w.heap.size + 1) X Z (Hu2.get (w.heap.size + 1) Z (by simp)) (by omega) (fun p hp => by simp at hp; subst hp; simp)
        refine bodyPost_ret (results_two rfl _ _ _ ⟨w.heap.size + 1, 0, none⟩ rfl _ (HSZ.load (w.heap.size + 1) X (by simp) IX)) rfl ⟨?_, HSZ.1⟩
        rw [hrf.out, ← hX.out]
        rfl
    · have hrf : Hid (rootF a = (0, false)) := by unfold Hid; rw [hRF.out, if_neg hc2]
      have hdc : decide (mulF (rootT a) (rootT a) = a % pp) = !true := by simp [hc2]
      clear hRF hc2
      refine wp_nrm ?_
      refine wp_region_any (by kernel_rfl) ?_
      change wpAny _ _ _ _ _ _ _ (World.drew _)
      have HD := HSc.out.drew
      generalize ws1.drew = Wd at *
      refine any_of_F (S := Kn w [(w.heap.size, N), (w.heap.size + 1, Z), (gR, X)]) (f := 1000) _ _ _ _ ?_
      refine tkG 0 (some 18) (.load 36 (.tmp 4)) none (.agg X) (fun o ho w2 hw => exec_load_of _ 36 (.tmp 4) ho ⟨gR, 0, none⟩ rfl _ (hw.load (gR) X (by simp) IX)) HD ?_
      simp only [Act.put, sT, sS, sZ]
      refine tkG 1 (some 19) (.load 36 (.tmp 4)) none (.agg X) (fun o ho w2 hw => exec_load_of _ 36 (.tmp 4) ho ⟨gR, 0, none⟩ rfl _ (hw.load (gR) X (by simp) IX)) HD ?_
      simp only [Act.put, sT, sS, sZ]
      refine tkG 3 (some 21) (.load 36 (.tmp 1)) none (.agg N) (fun o ho w2 hw => exec_load_of _ 36 (.tmp 1) ho ⟨w.heap.size, 0, none⟩ rfl _ (hw.load (w.heap.size) N (by simp) IN)) HD ?_
      simp only [Act.put, sT, sS, sZ]
      refine rdy [2] (rcl (some 20) 130 #[.tmp 18, .tmp 19] #[36, 36] #[.agg X, .agg X] enters40 _ (H6.out _) ?_ ReadyF.nil)
      rintro v wu1 ⟨he, hb⟩
      cases he
      have Hu2 := HD.below hb
      clear hb
      refine ⟨Hu2, ?_⟩
      simp only [Act.put, sT, sS, sZ]
      refine tkG 4 (some 22) (.binOp .neq 36 (.tmp 20) (.tmp 21) 36) none (.bool true) (fun o ho w2 hw => exec_neqL (.tmp 20) (.tmp 21) ho _ _ htm4 hN5 XX N hXX hN rfl rfl true hdc w2) Hu2 ?_
      simp only [Act.put, sT, sS, sZ]
      refine AnyF.done (by kernel_rfl) ?_ _
      refine nrm_intro ?_
      go_wp2_with (first | (refine wpList_run rfl _ (exec_build0 rfl (.agg Z) (HB0.out _) _) ?_) | (refine wpList_run0 rfl (exec_store_kn (w0 := w) (l := [(w.heap.size, N), (w.heap.size + 1, Z), (gR, X)]) _ Hu2 (.tmp 2) (.tmp 23) rfl (w.heap.size + 1) rfl Z IZ rfl Z IZ (by simp)) ?_))
      have HSZ : Kn w [(w.heap.size + 1, Z)] (World.setRow _ (w.heap.size + 1) Z) := Hu2.set (w.heap.size + 1) Z Z (Hu2.get (w.heap.size + 1) Z (by simp)) (by omega) (fun p hp => by simp at hp; subst hp; simp)
      refine bodyPost_ret (results_two rfl _ _ _ ⟨w.heap.size + 1, 0, none⟩ rfl _ (HSZ.load (w.heap.size + 1) Z (by simp) IZ)) rfl ⟨?_, HSZ.1⟩
      rw [hrf.out, ← hZ.out]
      rfl
  · have hXS : Hid (S = X) := by unfold Hid; rw [hS.out, hX.out, hRT.out, if_neg hc1]
    have hd3 : decide (mulF (rootR a) (rootR a) = a % pp) = !true := by simp [hc1]
    rw [hXS.out] at H5
    clear hXS hc1 hRT
    refine wp_nrm ?_
    refine wp_region_any (by kernel_rfl) ?_
    change wpAny _ _ _ _ _ _ _ (World.drew _)
    have HD := HS5.out.drew
    generalize W3.drew = Wd at *
    refine any_of_F (S := Kn w [(w.heap.size, N), (w.heap.size + 1, Z), (gR, R)]) (f := 1000) _ _ _ _ ?_
    refine tkG 0 (some 10) (.load 36 (.tmp 4)) none (.agg R) (fun o ho w2 hw => exec_load_of _ 36 (.tmp 4) ho ⟨gR, 0, none⟩ rfl _ (hw.load (gR) R (by simp) IR)) HD ?_
    simp only [Act.put, sT, sS, sZ]
    refine tkG 1 (some 11) (.load 36 (.tmp 4)) none (.agg R) (fun o ho w2 hw => exec_load_of _ 36 (.tmp 4) ho ⟨gR, 0, none⟩ rfl _ (hw.load (gR) R (by simp) IR)) HD ?_
    simp only [Act.put, sT, sS, sZ]
    refine tkG 3 (some 13) (.load 36 (.tmp 1)) none (.agg N) (fun o ho w2 hw => exec_load_of _ 36 (.tmp 1) ho ⟨w.heap.size, 0, none⟩ rfl _ (hw.load (w.heap.size) N (by simp) IN)) HD ?_
    simp only [Act.put, sT, sS, sZ]
    refine rdy [2] (rcl (some 12) 130 #[.tmp 10, .tmp 11] #[36, 36] #[.agg R, .agg R] enters40 _ (H4.out _) ?_ ReadyF.nil)
    rintro v ws1 ⟨he, hb⟩
    cases he
    have Hs2 := HD.below hb
    clear hb
    refine ⟨Hs2, ?_⟩
    simp only [Act.put, sT, sS, sZ]
    refine tkG 4 (some 14) (.binOp .neq 36 (.tmp 12) (.tmp 13) 36) none (.bool true) (fun o ho w2 hw => exec_neqL (.tmp 12) (.tmp 13) ho _ _ hrm4 hN5 RR N hRR hN rfl rfl true hd3 w2) Hs2 ?_
    simp only [Act.put, sT, sS, sZ]
    refine AnyF.done (by kernel_rfl) ?_ _
    refine nrm_intro ?_
    have HSa := Lib.hid Hs2
    go_wp2_with (first | (refine wpList_run rfl _ (exec_load_of _ 36 (.tmp 4) rfl ⟨gR, 0, none⟩ rfl (.agg R) ?L4) ?_) | (refine wpList_run rfl _ (exec_load_of _ 36 (.global 3) rfl ⟨3, 0, none⟩ rfl (.agg T) ?LT) ?_))
    case L4 => exact Hs2.load gR R (by simp) IR
    case LT => exact HTL.out _ _ Hs2
    refine (H5.out _).mono ?_
    rintro e w4 ⟨rfl, hb⟩
    have HSb := Lib.hid (HSa.out.below hb)
    clear hb HSa H5
    go_upto_region 5 with (refine wpList_run0 rfl (exec_store_kn (w0 := w) (l := [(w.heap.size, N), (w.heap.size + 1, Z), (gR, R)]) _ HSb.out (.tmp 4) (.tmp 17) rfl (gR) rfl X IX rfl R IR (by simp)) ?_)
    try simp only [Act.put, sT, sS, sZ]
    have HSc : Hid (Kn w [(w.heap.size, N), (w.heap.size + 1, Z), (gR, X)] (w4.setRow gR X)) := Lib.hid (HSb.out.set gR X R (HSb.out.get gR R (by simp)) (by omega) (fun p hp => by simp at hp; rcases hp with rfl | rfl | rfl <;> simp <;> omega))
    clear HSb
    generalize w4.setRow gR X = W4 at *
    go_upto_region 5 with fail
    try simp only [Act.put, sT, sS, sZ]
    by_cases hc2 : mulF (rootT a) (rootT a) = a % pp
    · by_cases hod1 : rootT a % 2 = 1
      · have hrf : Hid (rootF a = (subF 0 (rootT a), true)) := by unfold Hid; rw [hRF.out, if_pos hc2, if_pos hod1]
        have hod2 : d % 2 = 1 := by omega
        have hdc : decide (mulF (rootT a) (rootT a) = a % pp) = !false := by simp [hc2]
        clear hRF hc2 hod1
        refine wp_nrm ?_
        refine wp_region_any (by kernel_rfl) ?_
        change wpAny _ _ _ _ _ _ _ (World.drew _)
        have HD := HSc.out.drew
        generalize W4.drew = Wd at *
        refine any_of_F (S := Kn w [(w.heap.size, N), (w.heap.size + 1, Z), (gR, X)]) (f := 1000) _ _ _ _ ?_
        refine tkG 0 (some 18) (.load 36 (.tmp 4)) none (.agg X) (fun o ho w2 hw => exec_load_of _ 36 (.tmp 4) ho ⟨gR, 0, none⟩ rfl _ (hw.load (gR) X (by simp) IX)) HD ?_
        simp only [Act.put, sT, sS, sZ]
        refine tkG 1 (some 19) (.load 36 (.tmp 4)) none (.agg X) (fun o ho w2 hw => exec_load_of _ 36 (.tmp 4) ho ⟨gR, 0, none⟩ rfl _ (hw.load (gR) X (by simp) IX)) HD ?_
        simp only [Act.put, sT, sS, sZ]
        refine tkG 3 (some 21) (.load 36 (.tmp 1)) none (.agg N) (fun o ho w2 hw => exec_load_of _ 36 (.tmp 1) ho ⟨w.heap.size, 0, none⟩ rfl _ (hw.load (w.heap.size) N (by simp) IN)) HD ?_
        simp only [Act.put, sT, sS, sZ]
        refine rdy [2] (rcl (some 20) 130 #[.tmp 18, .tmp 19] #[36, 36] #[.agg X, .agg X] enters40 _ (H6.out _) ?_ ReadyF.nil)
        rintro v wu1 ⟨he, hb⟩
        cases he
        have Hu2 := HD.below hb
        clear hb
        refine ⟨Hu2, ?_⟩
        simp only [Act.put, sT, sS, sZ]
        refine tkG 4 (some 22) (.binOp .neq 36 (.tmp 20) (.tmp 21) 36) none (.bool false) (fun o ho w2 hw => exec_neqL (.tmp 20) (.tmp 21) ho _ _ htm4 hN5 XX N hXX hN rfl rfl false hdc w2) Hu2 ?_
        simp only [Act.put, sT, sS, sZ]
        refine AnyF.done (by kernel_rfl) ?_ _
        refine nrm_intro ?_
        have hcell := (Hu2.cell gR X (by simp) 0).trans hc0
        go_wp2_with (first | (refine wpList_run rfl _ (exec_indexAddr24 (.tmp 4) (.const (.int .i64 0)) rfl gR 0 rfl rfl (by decide) _) ?_) | (refine wpList_run rfl _ (exec_load_one _ 34 (.tmp 24) rfl ⟨gR, 0, none⟩ rfl _ hcell _ Tryz.underlying34 rfl) ?_) | (refine wpList_run rfl _ (exec_rem2 (.tmp 25) rfl rfl d 1 hod2 rfl _) ?_) | (refine wpList_run rfl _ (exec_build0 rfl (.agg Z) (HB0.out _) _) ?_) | (refine wpList_run rfl _ (exec_load_of _ 36 (.tmp 4) rfl ⟨gR, 0, none⟩ rfl (.agg X) ?L4) ?_))
        case L4 => exact Hu2.load gR X (by simp) IX
        have HSa := Lib.hid Hu2
        refine (H7.out _).mono ?_
        rintro e w9 ⟨rfl, hb⟩
        have HSb := Lib.hid (HSa.out.below hb)
        clear hb HSa H7
        go_upto_region 9 with (refine wpList_run0 rfl (exec_store_kn (w0 := w) (l := [(w.heap.size, N), (w.heap.size + 1, Z), (gR, X)]) _ HSb.out (.tmp 4) (.tmp 30) rfl (gR) rfl Y IY rfl X IX (by simp)) ?_)
        try simp only [Act.put, sT, sS, sZ]
        have HSc : Hid (Kn w [(w.heap.size, N), (w.heap.size + 1, Z), (gR, Y)] (w9.setRow gR Y)) := Lib.hid (HSb.out.set gR Y X (HSb.out.get gR X (by simp)) (by omega) (fun p hp => by simp at hp; rcases hp with rfl | rfl | rfl <;> simp <;> omega))
        clear HSb
        generalize w9.setRow gR Y = W9 at *
        have hL4 := HSc.out.load gR Y (by simp) IY
        go_wp2_with (first | (refine wpList_run rfl _ (exec_load_of _ 36 (.tmp 4) rfl ⟨gR, 0, none⟩ rfl (.agg Y) hL4) ?_) | (refine wpList_run0 rfl (exec_store_kn (w0 := w) (l := [(w.heap.size, N), (w.heap.size + 1, Z), (gR, Y)]) _ HSc.out (.tmp 2) (.tmp 31) rfl (w.heap.size + 1) rfl Y IY rfl Z IZ (by simp)) ?_))
        have HSZ : Kn w [(w.heap.size + 1, Y)] (World.setRow _ (w.heap.size + 1) Y) := HSc.out.set (w.heap.size + 1) Y Z (HSc.out.get (w.heap.size + 1) Z (by simp)) (by omega) (fun p hp => by simp at hp; subst hp; simp)
        refine bodyPost_ret (results_two rfl _ _ _ ⟨w.heap.size + 1, 0, none⟩ rfl _ (HSZ.load (w.heap.size + 1) Y (by simp) IY)) rfl ⟨?_, HSZ.1⟩
        rw [hrf.out, ← hY.out]
        rfl
      · have hrf : Hid (rootF a = (rootT a, true)) := by unfold Hid; rw [hRF.out, if_pos hc2, if_neg hod1]
        have hod2 : d % 2 = 0 := by omega
        have hdc : decide (mulF (rootT a) (rootT a) = a % pp) = !false := by simp [hc2]
        clear hRF hc2 hod1
        refine wp_nrm ?_
        refine wp_region_any (by kernel_rfl) ?_
        change wpAny _ _ _ _ _ _ _ (World.drew _)
        have HD := HSc.out.drew
        generalize W4.drew = Wd at *
        refine any_of_F (S := Kn w [(w.heap.size, N), (w.heap.size + 1, Z), (gR, X)]) (f := 1000) _ _ _ _ ?_
        refine tkG 0 (some 18) (.load 36 (.tmp 4)) none (.agg X) (fun o ho w2 hw => exec_load_of _ 36 (.tmp 4) ho ⟨gR, 0, none⟩ rfl _ (hw.load (gR) X (by simp) IX)) HD ?_
        simp only [Act.put, sT, sS, sZ]
        refine tkG 1 (some 19) (.load 36 (.tmp 4)) none (.agg X) (fun o ho w2 hw => exec_load_of _ 36 (.tmp 4) ho ⟨gR, 0, none⟩ rfl _ (hw.load (gR) X (by simp) IX)) HD ?_
        simp only [Act.put, sT, sS, sZ]
        refine tkG 3 (some 21) (.load 36 (.tmp 1)) none (.agg N) (fun o ho w2 hw => exec_load_of _ 36 (.tmp 1) ho ⟨w.heap.size, 0, none⟩ rfl _ (hw.load (w.heap.size) N (by simp) IN)) HD ?_
        simp only [Act.put, sT, sS, sZ]
        refine rdy [2] (rcl (some 20) 130 #[.tmp 18, .tmp 19] #[36, 36] #[.agg X, .agg X] enters40 _ (H6.out _) ?_ ReadyF.nil)
        rintro v wu1 ⟨he, hb⟩
        cases he
        have Hu2 := HD.below hb
        clear hb
        refine ⟨Hu2, ?_⟩
        simp only [Act.put, sT, sS, sZ]
        refine tkG 4 (some 22) (.binOp .neq 36 (.tmp 20) (.tmp 21) 36) none (.bool false) (fun o ho w2 hw => exec_neqL (.tmp 20) (.tmp 21) ho _ _ htm4 hN5 XX N hXX hN rfl rfl false hdc w2) Hu2 ?_
        simp only [Act.put, sT, sS, sZ]
        refine AnyF.done (by kernel_rfl) ?_ _
        refine nrm_intro ?_
        have hcell := (Hu2.cell gR X (by simp) 0).trans hc0
        go_wp2_with (first | (refine wpList_run rfl _ (exec_indexAddr24 (.tmp 4) (.const (.int .i64 0)) rfl gR 0 rfl rfl (by decide) _) ?_) | (refine wpList_run rfl _ (exec_load_one _ 34 (.tmp 24) rfl ⟨gR, 0, none⟩ rfl _ hcell _ Tryz.underlying34 rfl) ?_) | (refine wpList_run rfl _ (exec_rem2 (.tmp 25) rfl rfl d 0 hod2 rfl _) ?_) | (refine wpList_run rfl _ (exec_load_of _ 36 (.tmp 4) rfl ⟨gR, 0, none⟩ rfl (.agg X) ?L4) ?_) | (refine wpList_run0 rfl (exec_store_kn (w0 := w) (l := [(w.heap.size, N), (w.heap.size + 1, Z), (gR, X)]) _ Hu2 (.tmp 2) (.tmp 31) rfl (w.heap.size + 1) rfl X IX rfl Z IZ (by simp)) ?_))
        case L4 => exact Hu2.load gR X (by simp) IX
        have HSZ : Kn w [(w.heap.size + 1, X)] (World.setRow _ (w.heap.size + 1) X) := Hu2.set (w.heap.size + 1) X Z (Hu2.get (w.heap.size + 1) Z (by simp)) (by omega) (fun p hp => by simp at hp; subst hp; simp)
        refine bodyPost_ret (results_two rfl _ _ _ ⟨w.heap.size + 1, 0, none⟩ rfl _ (HSZ.load (w.heap.size + 1) X (by simp) IX)) rfl ⟨?_, HSZ.1⟩
        rw [hrf.out, ← hX.out]
        rfl
    · have hrf : Hid (rootF a = (0, false)) := by unfold Hid; rw [hRF.out, if_neg hc2]
      have hdc : decide (mulF (rootT a) (rootT a) = a % pp) = !true := by simp [hc2]
      clear hRF hc2
      refine wp_nrm ?_
      refine wp_region_any (by kernel_rfl) ?_
      change wpAny _ _ _ _ _ _ _ (World.drew _)
      have HD := HSc.out.drew
      generalize W4.drew = Wd at *
      refine any_of_F (S := Kn w [(w.heap.size, N), (w.heap.size + 1, Z), (gR, X)]) (f := 1000) _ _ _ _ ?_
      refine tkG 0 (some 18) (.load 36 (.tmp 4)) none (.agg X) (fun o ho w2 hw => exec_load_of _ 36 (.tmp 4) ho ⟨gR, 0, none⟩ rfl _ (hw.load (gR) X (by simp) IX)) HD ?_
      simp only [Act.put, sT, sS, sZ]
      refine tkG 1 (some 19) (.load 36 (.tmp 4)) none (.agg X) (fun o ho w2 hw => exec_load_of _ 36 (.tmp 4) ho ⟨gR, 0, none⟩ rfl _ (hw.load (gR) X (by simp) IX)) HD ?_
      simp only [Act.put, sT, sS, sZ]
      refine tkG 3 (some 21) (.load 36 (.tmp 1)) none (.agg N) (fun o ho w2 hw => exec_load_of _ 36 (.tmp 1) ho ⟨w.heap.size, 0, none⟩ rfl _ (hw.load (w.heap.size) N (by simp) IN)) HD ?_
      simp only [Act.put, sT, sS, sZ]
      refine rdy [2] (rcl (some 20) 130 #[.tmp 18, .tmp 19] #[36, 36] #[.agg X, .agg X] enters40 _ (H6.out _) ?_ ReadyF.nil)
      rintro v wu1 ⟨he, hb⟩
      cases he
      have Hu2 := HD.below hb
      clear hb
      refine ⟨Hu2, ?_⟩
      simp only [Act.put, sT, sS, sZ]
      refine tkG 4 (some 22) (.binOp .neq 36 (.tmp 20) (.tmp 21) 36) none (.bool true) (fun o ho w2 hw => exec_neqL (.tmp 20) (.tmp 21) ho _ _ htm4 hN5 XX N hXX hN rfl rfl true hdc w2) Hu2 ?_
      simp only [Act.put, sT, sS, sZ]
      refine AnyF.done (by kernel_rfl) ?_ _
      refine nrm_intro ?_
      go_wp2_with (first | (refine wpList_run rfl _ (exec_build0 rfl (.agg Z) (HB0.out _) _) ?_) | (refine wpList_run0 rfl (exec_store_kn (w0 := w) (l := [(w.heap.size, N), (w.heap.size + 1, Z), (gR, X)]) _ Hu2 (.tmp 2) (.tmp 23) rfl (w.heap.size + 1) rfl Z IZ rfl Z IZ (by simp)) ?_))
      have HSZ : Kn w [(w.heap.size + 1, Z)] (World.setRow _ (w.heap.size + 1) Z) := Hu2.set (w.heap.size + 1) Z Z (Hu2.get (w.heap.size + 1) Z (by simp)) (by omega) (fun p hp => by simp at hp; subst hp; simp)
      refine bodyPost_ret (results_two rfl _ _ _ ⟨w.heap.size + 1, 0, none⟩ rfl _ (HSZ.load (w.heap.size + 1) Z (by simp) IZ)) rfl ⟨?_, HSZ.1⟩
      rw [hrf.out, ← hZ.out]
      rfl
end Go.Proofs.YtdajmekliodmcaaGreatDoor.P8
