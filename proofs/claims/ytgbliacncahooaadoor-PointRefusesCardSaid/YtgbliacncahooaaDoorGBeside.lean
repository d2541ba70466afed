/- beside, Base of package point: the X that goes with a Y, the first point. No condition but that Y has 256 bits, and that the numbers stand in memory. -/
import Derived.Test.YtgbliacncahooaaDoorGOpA
import Derived.Test.YtgbliacncahooaaDoorGRoot
namespace Go.Proofs.YtgbliacncahooaaDoor
open Go.RowKit Go.Shelf
set_option linter.unusedVariables false
set_option linter.unusedSimpArgs false
theorem fromU_eq (y : Nat) : mulF (subF (mulF (y) (y)) (1)) (invF (addF (1) (mulF (dN) (mulF (y) (y))))) = fromU y := by unfold fromU; rw [addF_comm1]
set_option maxRecDepth 100000 in
set_option maxHeartbeats 2000000 in
theorem beside_any (y : Nat) (hy : y < 115792089237316195423570985008687907853269984665640564039457584007913129639936) (w : World) (hT0 : GlobT w) (hG0 : Glob w) :
    Calls Tryd.prog 29 #[.agg (num y)] w fun e w' => e = .returned (.tuple #[.agg (num (rootF (fromU y)).1), .bool (rootF (fromU y)).2]) ∧ Below w.heap.size w w' := by
  have HG := Lib.hid hG0
  have HT := Lib.hid hT0
  rw [← fromU_eq y]
  have HC3 := Lib.hid (mulf_any (y) (y) hy hy)
  have HC8 := Lib.hid (mulf_any (dN) (mulF (y) (y)) dN_b4 (pp_lt (mulF_lt _ _)))
  have HC10 := Lib.hid (addf_any (1) (mulF (dN) (mulF (y) (y))) (by decide) (pp_lt (mulF_lt _ _)))
  have HC12 := Lib.hid (subf_any (mulF (y) (y)) (1) (pp_lt (mulF_lt _ _)) (by decide))
  have HC14 := Lib.hid (inv_any (addF (1) (mulF (dN) (mulF (y) (y)))) (pp_lt (addF_lt _ _)))
  have HC16 := Lib.hid (mulf_any (subF (mulF (y) (y)) (1)) (invF (addF (1) (mulF (dN) (mulF (y) (y))))) (pp_lt (subF_lt _ _)) (pp_lt (invF_lt _)))
  have HC19 : Hid (∀ w, GlobT w → _) := Lib.hid (root_any (mulF (subF (mulF (y) (y)) (1)) (invF (addF (1) (mulF (dN) (mulF (y) (y)))))) (pp_lt (mulF_lt _ _)))
  obtain ⟨Y, hY⟩ : ∃ zz9, Hid (zz9 = num (y)) := ⟨_, Lib.hid rfl⟩
  have IY : IsNum Y := by rw [hY.out]; exact isNum _
  obtain ⟨NN1, hNN1⟩ : ∃ zz9, Hid (zz9 = num (0)) := ⟨_, Lib.hid rfl⟩
  have INN1 : IsNum NN1 := by rw [hNN1.out]; exact isNum _
  obtain ⟨NN2, hNN2⟩ : ∃ zz9, Hid (zz9 = num (mulF (y) (y))) := ⟨_, Lib.hid rfl⟩
  have INN2 : IsNum NN2 := by rw [hNN2.out]; exact isNum _
  obtain ⟨NN5, hNN5⟩ : ∃ zz9, Hid (zz9 = num (1)) := ⟨_, Lib.hid rfl⟩
  have INN5 : IsNum NN5 := by rw [hNN5.out]; exact isNum _
  obtain ⟨NN6, hNN6⟩ : ∃ zz9, Hid (zz9 = num (dN)) := ⟨_, Lib.hid rfl⟩
  have INN6 : IsNum NN6 := by rw [hNN6.out]; exact isNum _
  obtain ⟨NN7, hNN7⟩ : ∃ zz9, Hid (zz9 = num (mulF (dN) (mulF (y) (y)))) := ⟨_, Lib.hid rfl⟩
  have INN7 : IsNum NN7 := by rw [hNN7.out]; exact isNum _
  obtain ⟨NN9, hNN9⟩ : ∃ zz9, Hid (zz9 = num (addF (1) (mulF (dN) (mulF (y) (y))))) := ⟨_, Lib.hid rfl⟩
  have INN9 : IsNum NN9 := by rw [hNN9.out]; exact isNum _
  obtain ⟨NN11, hNN11⟩ : ∃ zz9, Hid (zz9 = num (subF (mulF (y) (y)) (1))) := ⟨_, Lib.hid rfl⟩
  have INN11 : IsNum NN11 := by rw [hNN11.out]; exact isNum _
  obtain ⟨NN13, hNN13⟩ : ∃ zz9, Hid (zz9 = num (invF (addF (1) (mulF (dN) (mulF (y) (y)))))) := ⟨_, Lib.hid rfl⟩
  have INN13 : IsNum NN13 := by rw [hNN13.out]; exact isNum _
  obtain ⟨NN15, hNN15⟩ : ∃ zz9, Hid (zz9 = num (mulF (subF (mulF (y) (y)) (1)) (invF (addF (1) (mulF (dN) (mulF (y) (y))))))) := ⟨_, Lib.hid rfl⟩
  have INN15 : IsNum NN15 := by rw [hNN15.out]; exact isNum _
  obtain ⟨NN17, hNN17⟩ : ∃ zz9, Hid (zz9 = num ((rootF (mulF (subF (mulF (y) (y)) (1)) (invF (addF (1) (mulF (dN) (mulF (y) (y))))))).1)) := ⟨_, Lib.hid rfl⟩
  have INN17 : IsNum NN17 := by rw [hNN17.out]; exact isNum _
  obtain ⟨bb18, hbb18⟩ : ∃ zz9, Hid (zz9 = (rootF (mulF (subF (mulF (y) (y)) (1)) (invF (addF (1) (mulF (dN) (mulF (y) (y))))))).2) := ⟨_, Lib.hid rfl⟩
  have HZ24 : ∀ w, (zeroValue 24).run Tryd.prog w = .ok (.agg NN1) w := by rw [hNN1.out]; exact zero_run
  have SZNN1 := INN1.size
  have BF4 : ∀ w, (Instr.build 24 #[(0, .int .u64 1)]).run Tryd.prog w = .ok (.agg NN5) w := by rw [hNN5.out]; exact build_run 1 (by decide)
  have LD : ∀ W, Below w.heap.size w W → (loadVar 24 ⟨0, 0, none⟩).run Tryd.prog W = .ok (.agg NN6) W := fun W hb => by rw [hNN6.out]; exact (HG.out.below hb).load
  try simp only [← hY.out, ← hNN1.out, ← hNN2.out, ← hNN5.out, ← hNN6.out, ← hNN7.out, ← hNN9.out, ← hNN11.out, ← hNN13.out, ← hNN15.out, ← hNN17.out, ← hbb18.out] at HC3 HC8 HC10 HC12 HC14 HC16 HC19 ⊢
  clear hY hNN1 hNN2 hNN5 hNN6 hNN7 hNN9 hNN11 hNN13 hNN15 hNN17 hbb18 hy hG0 hT0
  go_enter Tryd.func29, Tryd.ntmps29
  have HS : Hid (Kt w [] w) := Lib.hid (Kt.nil w)
  go_upto_region 0 with fail
  refine wp_region_list ?_
  refine wpList_run rfl _ (exec_box _ 24 (.tmp 0) rfl _ rfl (Y) rfl) ?_
  simp only [Act.put, sT, sS, sZ]
  have bg3 := HS.out.1.size
  have HS2 := Lib.hid (HS.out.new Y 24)
  clear HS
  generalize w.alloc (.cells Y 24) = w1 at *
  refine wpList_run rfl _ (exec_alloc_agg _ 24 rfl _ (HZ24 _)) ?_
  simp only [Act.put, sT, sS, sZ]
  have lg6_0 := HS2.out.lt (w.heap.size) Y 24 (by simp)
  have bg6 := HS2.out.1.size
  have HS5 := Lib.hid (HS2.out.new NN1 24)
  clear HS2
  generalize w1.alloc (.cells NN1 24) = w4 at *
  generalize w1.heap.size = g6 at *
  refine wpList_run rfl (.bool false) (exec_assign (.const (.bool false)) rfl _ rfl _) ?_
  simp only [Act.put, sT, sS, sZ]
  refine wpList_nil ?_
  go_upto_region 1 with fail
  refine wp_region_list ?_
  refine wpList_run rfl (.agg Y) (exec_load_of _ 24 (.tmp 1) rfl ⟨w.heap.size, 0, none⟩ rfl _ (loadA24 IY (HS5.out.get (w.heap.size) Y 24 (by simp)))) ?_
  simp only [Act.put, sT, sS, sZ]
  refine wpList_run rfl (.agg Y) (exec_load_of _ 24 (.tmp 1) rfl ⟨w.heap.size, 0, none⟩ rfl _ (loadA24 IY (HS5.out.get (w.heap.size) Y 24 (by simp)))) ?_
  simp only [Act.put, sT, sS, sZ]
  refine wpList_callF rfl 40 #[.tmp 6, .tmp 7] #[24, 24] rfl #[.agg Y, .agg Y] en40 (HC3.out _) ?_
  rintro v w7 ⟨he, hb⟩
  cases he
  have HS8 := Lib.hid (HS5.out.below hb)
  clear hb HS5
  simp only [Act.put, sT, sS, sZ]
  refine wpList_run rfl _ (exec_alloc_agg _ 24 rfl _ (HZ24 _)) ?_
  simp only [Act.put, sT, sS, sZ]
  have lg11_0 := HS8.out.lt (g6) NN1 24 (by simp)
  have lg11_1 := HS8.out.lt (w.heap.size) Y 24 (by simp)
  have bg11 := HS8.out.1.size
  have HS10 := Lib.hid (HS8.out.new NN1 24)
  clear HS8
  generalize w7.alloc (.cells NN1 24) = w9 at *
  generalize w7.heap.size = g11 at *
  refine wpList_run0 rfl (exec_store24 _ (.tmp 4) (.tmp 8) rfl (g11) rfl NN2 INN2 rfl NN1 24 (HS10.out.get (g11) NN1 24 (by simp)) SZNN1) ?_
  simp only [Act.put, sT, sS, sZ]
  have HS13 : Hid (Kt w [(g11, NN2, 24), (g6, NN1, 24), (w.heap.size, Y, 24)] (w9.setRow (g11) NN2)) := Lib.hid (HS10.out.set (g11) NN2 NN1 24 (HS10.out.get (g11) NN1 24 (by simp)) (by omega) (fun p hp => by simp at hp; rcases hp with rfl | rfl | rfl <;> first | exact .inl rfl | exact .inr ⟨by simp, by simp only; omega⟩))
  clear HS10
  generalize w9.setRow (g11) NN2 = w12 at *
  refine wpList_nil ?_
  have HS14 : Hid (Kt w [(g11, NN2, 24), (g6, NN1, 24)] w12) := Lib.hid (HS13.out.sub (fun p hp => by simp at hp; rcases hp with rfl | rfl <;> simp))
  clear HS13
  go_upto_region 2 with fail
  refine wp_region_list ?_
  refine wpList_run rfl (.agg NN5) (exec_buildN _ 24 #[(0, .const (.int .u64 1))] rfl #[(0, .int .u64 1)] (by simp [Act.eval]) _ (BF4 _)) ?_
  simp only [Act.put, sT, sS, sZ]
  refine wpList_run rfl (.agg NN6) (exec_load_of _ 24 (.global 0) rfl ⟨0, 0, none⟩ rfl _ (LD _ (HS14.out.1))) ?_
  simp only [Act.put, sT, sS, sZ]
  refine wpList_run rfl (.agg NN2) (exec_load_of _ 24 (.tmp 4) rfl ⟨g11, 0, none⟩ rfl _ (loadA24 INN2 (HS14.out.get (g11) NN2 24 (by simp)))) ?_
  simp only [Act.put, sT, sS, sZ]
  refine wpList_callF rfl 40 #[.tmp 10, .tmp 11] #[24, 24] rfl #[.agg NN6, .agg NN2] en40 (HC8.out _) ?_
  rintro v w15 ⟨he, hb⟩
  cases he
  have HS16 := Lib.hid (HS14.out.below hb)
  clear hb HS14
  simp only [Act.put, sT, sS, sZ]
  refine wpList_callF rfl 41 #[.tmp 9, .tmp 12] #[24, 24] rfl #[.agg NN5, .agg NN7] en41 (HC10.out _) ?_
  rintro v w17 ⟨he, hb⟩
  cases he
  have HS18 := Lib.hid (HS16.out.below hb)
  clear hb HS16
  simp only [Act.put, sT, sS, sZ]
  refine wpList_run rfl _ (exec_alloc_agg _ 24 rfl _ (HZ24 _)) ?_
  simp only [Act.put, sT, sS, sZ]
  have lg21_0 := HS18.out.lt (g11) NN2 24 (by simp)
  have lg21_1 := HS18.out.lt (g6) NN1 24 (by simp)
  have bg21 := HS18.out.1.size
  have HS20 := Lib.hid (HS18.out.new NN1 24)
  clear HS18
  generalize w17.alloc (.cells NN1 24) = w19 at *
  generalize w17.heap.size = g21 at *
  refine wpList_run0 rfl (exec_store24 _ (.tmp 5) (.tmp 13) rfl (g21) rfl NN9 INN9 rfl NN1 24 (HS20.out.get (g21) NN1 24 (by simp)) SZNN1) ?_
  simp only [Act.put, sT, sS, sZ]
  have HS23 : Hid (Kt w [(g21, NN9, 24), (g11, NN2, 24), (g6, NN1, 24)] (w19.setRow (g21) NN9)) := Lib.hid (HS20.out.set (g21) NN9 NN1 24 (HS20.out.get (g21) NN1 24 (by simp)) (by omega) (fun p hp => by simp at hp; rcases hp with rfl | rfl | rfl <;> first | exact .inl rfl | exact .inr ⟨by simp, by simp only; omega⟩))
  clear HS20
  generalize w19.setRow (g21) NN9 = w22 at *
  refine wpList_nil ?_
  go_upto_region 3 with fail
  refine wp_cut (fun a' W' => a' = { tmps := #[.agg Y, .pointer (some ⟨w.heap.size, 0, none⟩), .pointer (some ⟨g6, 0, none⟩), .bool bb18, .pointer (some ⟨g11, 0, none⟩), .pointer (some ⟨g21, 0, none⟩), .agg Y, .agg Y, .agg NN2, .agg NN5, .agg NN6, .agg NN2, .agg NN7, .agg NN9, .agg NN2, .agg NN5, .agg NN11, .agg NN9, .agg NN13, .agg NN15, .tuple #[.agg NN17, .bool bb18], .agg NN17, .bool bb18], defers := [] } ∧ Kt w [(g6, NN17, 24)] W') ?_ ?_
  · refine wp_region_any (by kernel_rfl) ?_
    change wpAny _ _ _ _ _ _ _ (World.drew _)
    have HDq24x1 := HS23.out.drew
    clear HS23
    generalize w22.drew = wdq24x2 at *
    refine any_of_F (S := Kt w [(g21, NN9, 24), (g11, NN2, 24), (g6, NN1, 24)]) (f := 9) _ _ _ _ ?_
    refine tkL 0 (some 14) (.load 24 (.tmp 4)) (.agg NN2) (fun o ho w2 hw => exec_load_of _ 24 (.tmp 4) ho ⟨g11, 0, none⟩ rfl _ (loadA24 INN2 (hw.get (g11) NN2 24 (by simp)))) HDq24x1 ?_
    simp only [Act.put, sT, sS, sZ]
    refine tkL 1 (some 15) (.build 24 #[(0, .const (.int .u64 1))]) (.agg NN5) (fun o ho w2 hw => exec_buildN _ 24 #[(0, .const (.int .u64 1))] ho #[(0, .int .u64 1)] (by simp [Act.eval]) _ (BF4 _)) HDq24x1 ?_
    simp only [Act.put, sT, sS, sZ]
    refine tkL 3 (some 17) (.load 24 (.tmp 5)) (.agg NN9) (fun o ho w2 hw => exec_load_of _ 24 (.tmp 5) ho ⟨g21, 0, none⟩ rfl _ (loadA24 INN9 (hw.get (g21) NN9 24 (by simp)))) HDq24x1 ?_
    simp only [Act.put, sT, sS, sZ]
    refine rdy [2] (rcl (some 16) 30 #[.tmp 14, .tmp 15] #[24, 24] #[.agg NN2, .agg NN5] en30 _ (HC12.out _) ?_ ReadyF.nil)
    rintro v wq24x11 ⟨he, hb⟩
    cases he
    have Hq24x12 := HDq24x1.below hb
    clear hb
    refine ⟨Hq24x12, ?_⟩
    simp only [Act.put, sT, sS, sZ]
    refine rdy [4] (rcl (some 18) 53 #[.tmp 17] #[24] #[.agg NN9] en53 _ (HC14.out _) ?_ ReadyF.nil)
    rintro v wq24x13 ⟨he, hb⟩
    cases he
    have Hq24x14 := Hq24x12.below hb
    clear hb
    refine ⟨Hq24x14, ?_⟩
    simp only [Act.put, sT, sS, sZ]
    refine rdy [5] (rcl (some 19) 40 #[.tmp 16, .tmp 18] #[24, 24] #[.agg NN11, .agg NN13] en40 _ (HC16.out _) ?_ ReadyF.nil)
    rintro v wq24x15 ⟨he, hb⟩
    cases he
    have Hq24x16 := Hq24x14.below hb
    clear hb
    refine ⟨Hq24x16, ?_⟩
    simp only [Act.put, sT, sS, sZ]
    refine rdy [6] (rcl (some 20) 52 #[.tmp 19] #[24] #[.agg NN15] en52 _ (HC19.out _ (HT.out.below Hq24x16.1)) ?_ ReadyF.nil)
    rintro v wq24x17 ⟨he, hb⟩
    cases he
    have Hq24x18 := Hq24x16.below hb
    clear hb
    refine ⟨Hq24x18, ?_⟩
    simp only [Act.put, sT, sS, sZ]
    refine tkL 7 (some 21) (.extract (.tmp 20) 0) (.agg NN17) (fun o ho w2 hw => exec_extract (.tmp 20) 0 ho _ _ rfl rfl w2) Hq24x18 ?_
    simp only [Act.put, sT, sS, sZ]
    refine tkL 8 (some 22) (.extract (.tmp 20) 1) (.bool bb18) (fun o ho w2 hw => exec_extract (.tmp 20) 1 ho _ _ rfl rfl w2) Hq24x18 ?_
    simp only [Act.put, sT, sS, sZ]
    refine rdy [9] (ReadyF.last (.store 24 (.tmp 2) (.tmp 21)) rfl (fun o ho => exec_store24 wq24x17 (.tmp 2) (.tmp 21) ho (g6) rfl NN17 INN17 rfl NN1 24 (Hq24x18.get (g6) NN1 24 (by simp)) SZNN1) ?_ ReadyF.nil)
    refine any_one 10 (some 3) (.assign (.tmp 22)) (by kernel_rfl) rfl (.bool bb18) (fun o ho => exec_assign (.tmp 22) ho _ rfl _) ?_
    simp only [Act.put, sT, sS, sZ]
    refine any_doneF (by kernel_rfl) ?_ _
    have Hq24x19 : Kt w [(g21, NN9, 24), (g11, NN2, 24), (g6, NN17, 24)] (wq24x17.setRow (g6) NN17) := Hq24x18.set (g6) NN17 NN1 24 (Hq24x18.get (g6) NN1 24 (by simp)) (by omega) (fun p hp => by simp at hp; rcases hp with rfl | rfl | rfl <;> first | exact .inl rfl | exact .inr ⟨by simp, by simp only; omega⟩)
    refine nrm_intro ⟨rfl, Hq24x19.sub (fun p hp => by simp at hp; subst hp; simp)⟩
  rintro a' w25 ⟨rfl, hk⟩
  have HS26 := Lib.hid hk
  clear hk HS23
  go_wp2
  exact bodyPost_ret (results_two rfl _ _ _ ⟨g6, 0, none⟩ rfl _ (loadA24 INN17 (HS26.out.get (g6) NN17 24 (by simp)))) rfl ⟨rfl, HS26.out.1⟩
end Go.Proofs.YtgbliacncahooaaDoor
