/- Products of points of the document: a point so often, bit by bit. No condition but that it is a point, and that the number has 256 bits. -/
import Derived.Test.YtgbliacncahooaaDoorGOpsR
namespace Go.Proofs.YtgbliacncahooaaDoor
open Go.RowKit Go.Shelf
set_option linter.unusedVariables false
set_option linter.unusedSimpArgs false
set_option maxRecDepth 100000 in
set_option maxHeartbeats 2000000 in
theorem rmul_any (k : Nat) (p : Nat × Nat) (hk : k < 115792089237316195423570985008687907853269984665640564039457584007913129639936) (hp : onN p) (w : World) :
    Calls Tryd.prog 21 #[.agg (num k), .agg (num p.1 ++ num p.2)] w fun e w' => e = .returned (.agg (ptV (mulN k p))) ∧ Below w.heap.size w w' := by
  have G1 : Hid (∀ t W, B3 t → Calls Tryd.prog 47 #[.agg (threeV t), .agg (threeV t), .agg (num dN)] W fun e w' => e = .returned (.agg (threeV (plusN t t))) ∧ Below W.heap.size W w') := Lib.hid (fun t W h => rplus3 t t dN h h dN_b4 W)
  have G2 : Hid (∀ t W, B3 t → Calls Tryd.prog 47 #[.agg (threeV t), .agg (threeV (p.1, p.2, 1)), .agg (num dN)] W fun e w' => e = .returned (.agg (threeV (plusN t (p.1, p.2, 1)))) ∧ Below W.heap.size W w') := Lib.hid (fun t W h => rplus3 t (p.1, p.2, 1) dN h (one_b3 hp) dN_b4 W)
  have G3 := Lib.hid (rflat3 (fastN p (bitsTo k 256)) (fastN_b3 _ _))
  rw [mul_flat hp, hvB_all k hk] at G3
  have HBIT := Lib.hid (fun q hq => dig_bit k q hq)
  have HDL := Lib.hid (dig_lt k)
  obtain ⟨R, hR⟩ : ∃ R, Hid (R = ptV (mulN k p)) := ⟨_, Lib.hid rfl⟩
  have IR : IsRw 8 R := by rw [hR.out]; exact ptV_rw _
  rw [← hR.out] at G3 ⊢
  clear hR
  have HC2 := Lib.hid (rd_any)
  obtain ⟨Kx, hKx⟩ : ∃ zz9, Hid (zz9 = num (k)) := ⟨_, Lib.hid rfl⟩
  have IKx : IsNum Kx := by rw [hKx.out]; exact isNum _
  obtain ⟨Px, hPx⟩ : ∃ zz9, Hid (zz9 = num (p.1)) := ⟨_, Lib.hid rfl⟩
  have IPx : IsNum Px := by rw [hPx.out]; exact isNum _
  obtain ⟨Py, hPy⟩ : ∃ zz9, Hid (zz9 = num (p.2)) := ⟨_, Lib.hid rfl⟩
  have IPy : IsNum Py := by rw [hPy.out]; exact isNum _
  obtain ⟨Pa, hPa⟩ : ∃ zz9, Hid (zz9 = Px ++ Py) := ⟨_, Lib.hid rfl⟩
  have IPa : IsRw 8 Pa := by rw [hPa.out]; exact rw_app (isRw4 IPx) (isRw4 IPy)
  have SPa_0 : Part Pa 0 Px := by rw [hPa.out]; exact part_left 0 (part_all Px) Py
  have SPa_4 : Part Pa 4 Py := by rw [hPa.out]; exact part_right (Px) Py 4 (by simp [IPx.size])
  obtain ⟨ZR1, hZR1⟩ : ∃ zz9, Hid (zz9 = (rowOf .u64 8 (fun _ => 0)).toArray) := ⟨_, Lib.hid rfl⟩
  have SZZR1 : ZR1.size = 8 := by rw [hZR1.out]; rfl
  obtain ⟨NN3, hNN3⟩ : ∃ zz9, Hid (zz9 = num (dN)) := ⟨_, Lib.hid rfl⟩
  have INN3 : IsNum NN3 := by rw [hNN3.out]; exact isNum _
  obtain ⟨NN4, hNN4⟩ : ∃ zz9, Hid (zz9 = num (0)) := ⟨_, Lib.hid rfl⟩
  have INN4 : IsNum NN4 := by rw [hNN4.out]; exact isNum _
  obtain ⟨NN6, hNN6⟩ : ∃ zz9, Hid (zz9 = num (1)) := ⟨_, Lib.hid rfl⟩
  have INN6 : IsNum NN6 := by rw [hNN6.out]; exact isNum _
  obtain ⟨PP8, hPP8⟩ : ∃ zz9, Hid (zz9 = NN4 ++ NN6 ++ NN6) := ⟨_, Lib.hid rfl⟩
  have IPP8 : IsRw 12 PP8 := by rw [hPP8.out]; exact rw_app (rw_app (isRw4 INN4) (isRw4 INN6)) (isRw4 INN6)
  have SPP8_0 : Part PP8 0 NN4 := by rw [hPP8.out]; exact part_left 0 (part_left 0 (part_all NN4) NN6) NN6
  have SPP8_4 : Part PP8 4 NN6 := by rw [hPP8.out]; exact part_left 4 (part_right (NN4) NN6 4 (by simp [INN4.size])) NN6
  have SPP8_8 : Part PP8 8 NN6 := by rw [hPP8.out]; exact part_right (NN4 ++ NN6) NN6 8 (by simp [INN4.size, INN6.size])
  obtain ⟨PP10, hPP10⟩ : ∃ zz9, Hid (zz9 = Px ++ Py ++ NN6) := ⟨_, Lib.hid rfl⟩
  have IPP10 : IsRw 12 PP10 := by rw [hPP10.out]; exact rw_app (rw_app (isRw4 IPx) (isRw4 IPy)) (isRw4 INN6)
  have SPP10_0 : Part PP10 0 Px := by rw [hPP10.out]; exact part_left 0 (part_left 0 (part_all Px) Py) NN6
  have SPP10_4 : Part PP10 4 Py := by rw [hPP10.out]; exact part_left 4 (part_right (Px) Py 4 (by simp [IPx.size])) NN6
  have SPP10_8 : Part PP10 8 NN6 := by rw [hPP10.out]; exact part_right (Px ++ Py) NN6 8 (by simp [IPx.size, IPy.size])
  obtain ⟨ZR11, hZR11⟩ : ∃ zz9, Hid (zz9 = (rowOf .u64 12 (fun _ => 0)).toArray) := ⟨_, Lib.hid rfl⟩
  have SZZR11 : ZR11.size = 12 := by rw [hZR11.out]; rfl
  have HZ26 : ∀ w, (zeroValue 26).run Tryd.prog w = .ok (.agg ZR1) w := by rw [hZR1.out]; exact zeroT26
  have HZ24 : ∀ w, (zeroValue 24).run Tryd.prog w = .ok (.agg NN4) w := by rw [hNN4.out]; exact zero_run
  have SZNN4 := INN4.size
  have HZ71 : ∀ w, (zeroValue 71).run Tryd.prog w = .ok (.agg ZR11) w := by rw [hZR11.out]; exact zeroT71
  have BF5 : ∀ w, (Instr.build 24 #[(0, .int .u64 1)]).run Tryd.prog w = .ok (.agg NN6) w := by rw [hNN6.out]; exact build_run 1 (by decide)
  have BF7 : ∀ w, (Instr.build 71 #[(1, .agg NN6), (2, .agg NN6)]).run Tryd.prog w = .ok (.agg PP8) w := by have q := bt12 INN6 INN6; rw [← hNN4.out] at q; rw [hPP8.out]; exact q
  have BF9 : ∀ w, (Instr.build 71 #[(0, .agg Px), (1, .agg Py), (2, .agg NN6)]).run Tryd.prog w = .ok (.agg PP10) w := by rw [hPP10.out]; exact bt012 IPx IPy INN6
  have ET0 : Hid (PP8 = threeV (fastN p (bitsTo k (256 - 256)))) := by unfold Hid; rw [hPP8.out, hNN4.out, hNN6.out]; rfl
  have EQ0 : Hid (PP10 = threeV (p.1, p.2, 1)) := by unfold Hid; rw [hPP10.out, hPx.out, hPy.out, hNN6.out]; rfl
  have ED : Hid (NN3 = num dN) := Lib.hid hNN3.out
  have EK : Hid (Kx = num k) := Lib.hid hKx.out
  try simp only [← hKx.out, ← hPx.out, ← hPy.out, ← hNN3.out, ← hNN4.out, ← hNN6.out] at HC2 ⊢
  try simp only [← hPP8.out, ← hPP10.out, ← hZR11.out] at HC2 ⊢
  try simp only [← hPa.out, ← hZR1.out] at HC2 ⊢
  clear hKx hPx hPy hPa hZR1 hNN3 hNN4 hNN6 hPP8 hPP10 hZR11 hk hp
  rw [← EQ0.out, ← ED.out] at G2
  rw [← ED.out] at G1
  clear ED
  go_enter Tryd.func21, Tryd.ntmps21
  have HS : Hid (Kt w [] w) := Lib.hid (Kt.nil w)
  go_upto_region 0 with fail
  refine wp_region_list ?_
  refine wpList_run rfl _ (exec_box _ 24 (.tmp 0) rfl _ rfl (Kx) rfl) ?_
  simp only [Act.put, sT, sS, sZ]
  have bg3 := HS.out.1.size
  have HS2 := Lib.hid (HS.out.new Kx 24)
  clear HS
  generalize w.alloc (.cells Kx 24) = w1 at *
  refine wpList_run rfl _ (exec_box _ 26 (.tmp 1) rfl _ rfl (Pa) rfl) ?_
  simp only [Act.put, sT, sS, sZ]
  have lg6_0 := HS2.out.lt (w.heap.size) Kx 24 (by simp)
  have bg6 := HS2.out.1.size
  have HS5 := Lib.hid (HS2.out.new Pa 26)
  clear HS2
  generalize w1.alloc (.cells Pa 26) = w4 at *
  generalize w1.heap.size = g6 at *
  refine wpList_run rfl _ (exec_alloc_agg _ 26 rfl _ (HZ26 _)) ?_
  simp only [Act.put, sT, sS, sZ]
  have lg9_0 := HS5.out.lt (g6) Pa 26 (by simp)
  have lg9_1 := HS5.out.lt (w.heap.size) Kx 24 (by simp)
  have bg9 := HS5.out.1.size
  have HS8 := Lib.hid (HS5.out.new ZR1 26)
  clear HS5
  generalize w4.alloc (.cells ZR1 26) = w7 at *
  generalize w4.heap.size = g9 at *
  refine wpList_nil ?_
  go_upto_region 1 with fail
  refine wp_region_list ?_
  refine wpList_callF rfl 38 #[] #[] rfl #[] en38 (HC2.out _) ?_
  rintro v w10 ⟨he, hb⟩
  cases he
  have HS11 := Lib.hid (HS8.out.below hb)
  clear hb HS8
  simp only [Act.put, sT, sS, sZ]
  refine wpList_run rfl _ (exec_alloc_agg _ 24 rfl _ (HZ24 _)) ?_
  simp only [Act.put, sT, sS, sZ]
  have lg14_0 := HS11.out.lt (g9) ZR1 26 (by simp)
  have lg14_1 := HS11.out.lt (g6) Pa 26 (by simp)
  have lg14_2 := HS11.out.lt (w.heap.size) Kx 24 (by simp)
  have bg14 := HS11.out.1.size
  have HS13 := Lib.hid (HS11.out.new NN4 24)
  clear HS11
  generalize w10.alloc (.cells NN4 24) = w12 at *
  generalize w10.heap.size = g14 at *
  refine wpList_run0 rfl (exec_store24 _ (.tmp 5) (.tmp 9) rfl (g14) rfl NN3 INN3 rfl NN4 24 (HS13.out.get (g14) NN4 24 (by simp)) SZNN4) ?_
  simp only [Act.put, sT, sS, sZ]
  have HS16 : Hid (Kt w [(g14, NN3, 24), (g9, ZR1, 26), (g6, Pa, 26), (w.heap.size, Kx, 24)] (w12.setRow (g14) NN3)) := Lib.hid (HS13.out.set (g14) NN3 NN4 24 (HS13.out.get (g14) NN4 24 (by simp)) (by omega) (fun p hp => by simp at hp; rcases hp with rfl | rfl | rfl | rfl <;> first | exact .inl rfl | exact .inr ⟨by simp, by simp only; omega⟩))
  clear HS13
  generalize w12.setRow (g14) NN3 = w15 at *
  refine wpList_nil ?_
  go_upto_region 2 with fail
  refine wp_cut (fun a' W' => ∃ gq17s0 gq17s1, a' = { tmps := #[.agg Kx, .agg Pa, .pointer (some ⟨w.heap.size, 0, none⟩), .pointer (some ⟨g6, 0, none⟩), .pointer (some ⟨g9, 0, none⟩), .pointer (some ⟨g14, 0, none⟩), .pointer (some ⟨gq17s0, 0, none⟩), .pointer (some ⟨gq17s1, 0, none⟩), undef, .agg NN3, .agg NN6, .agg NN6, .agg PP8, .pointer (some ⟨g6, 0, none⟩), .agg Px, .pointer (some ⟨g6, 4, none⟩), .agg Py, .agg NN6, .agg PP10, undef, undef, undef, undef, undef, undef, undef, undef, undef, undef, undef, undef, undef, undef, undef, undef, undef, undef, undef, undef, undef, undef, undef], defers := [] } ∧ Kt w [(g14, NN3, 24), (g9, ZR1, 26), (w.heap.size, Kx, 24), (gq17s0, PP8, 71), (gq17s1, PP10, 71)] W' ∧ w.heap.size ≤ gq17s0 ∧ w.heap.size ≤ gq17s1 ∧ gq17s0 ≠ g14 ∧ gq17s0 ≠ g9 ∧ gq17s0 ≠ g6 ∧ gq17s0 ≠ w.heap.size ∧ gq17s1 ≠ g14 ∧ gq17s1 ≠ g9 ∧ gq17s1 ≠ g6 ∧ gq17s1 ≠ w.heap.size ∧ gq17s1 ≠ gq17s0) ?_ ?_
  · refine wp_region_any (by kernel_rfl) ?_
    change wpAny _ _ _ _ _ _ _ (World.drew _)
    have HDq17x1 := HS16.out.drew
    clear HS16
    generalize w15.drew = wdq17x2 at *
    refine any_of_F (S := Kt w [(g14, NN3, 24), (g9, ZR1, 26), (g6, Pa, 26), (w.heap.size, Kx, 24)]) (f := 1000) _ _ _ _ ?_
    refine F_have 2 #[true, true, true, true, true, true, true, true, true, true, true, false, false] (fun a W => ∃ gjq17_0_0 gjq17_0_1, a = { tmps := #[.agg Kx, .agg Pa, .pointer (some ⟨w.heap.size, 0, none⟩), .pointer (some ⟨g6, 0, none⟩), .pointer (some ⟨g9, 0, none⟩), .pointer (some ⟨g14, 0, none⟩), .pointer (some ⟨gjq17_0_0, 0, none⟩), .pointer (some ⟨gjq17_0_1, 0, none⟩), undef, .agg NN3, .agg NN6, .agg NN6, .agg PP8, .pointer (some ⟨g6, 0, none⟩), .agg Px, .pointer (some ⟨g6, 4, none⟩), .agg Py, .agg NN6, .agg PP10, undef, undef, undef, undef, undef, undef, undef, undef, undef, undef, undef, undef, undef, undef, undef, undef, undef, undef, undef, undef, undef, undef, undef], defers := [] } ∧ Kt w [(g14, NN3, 24), (g9, ZR1, 26), (g6, Pa, 26), (w.heap.size, Kx, 24)] W ∧ Kt w [(gjq17_0_0, ZR11, 71), (gjq17_0_1, ZR11, 71)] W ∧ w.heap.size ≤ gjq17_0_0 ∧ w.heap.size ≤ gjq17_0_1 ∧ gjq17_0_0 ≠ g14 ∧ gjq17_0_0 ≠ g9 ∧ gjq17_0_0 ≠ g6 ∧ gjq17_0_0 ≠ w.heap.size ∧ gjq17_0_1 ≠ g14 ∧ gjq17_0_1 ≠ g9 ∧ gjq17_0_1 ≠ g6 ∧ gjq17_0_1 ≠ w.heap.size ∧ gjq17_0_1 ≠ gjq17_0_0) ?_ ?_
    · rintro a wq17x11 ⟨gjq17_0_0, gjq17_0_1, rfl, Hq17x12, Eq17x13, fJq17_0_0, fJq17_0_1, fJq17_0_2, fJq17_0_3, fJq17_0_4, fJq17_0_5, fJq17_0_6, fJq17_0_7, fJq17_0_8, fJq17_0_9, fJq17_0_10⟩
      refine rdy [11] (ReadyF.op0 (.store 71 (.tmp 6) (.tmp 12)) rfl (fun o ho => exec_storeT71 wq17x11 (.tmp 6) (.tmp 12) ho (gjq17_0_0) rfl PP8 IPP8 rfl ZR11 71 (Eq17x13.get (gjq17_0_0) ZR11 71 (by simp)) SZZR11) (Hq17x12.set (gjq17_0_0) PP8 ZR11 71 (Eq17x13.get (gjq17_0_0) ZR11 71 (by simp)) (by omega) (fun p hp => by simp at hp; rcases hp with rfl | rfl | rfl | rfl <;> exact .inr ⟨by simp, by simp only; omega⟩)) ?_ ReadyF.nil)
      have Hq17x15 := Hq17x12.set (gjq17_0_0) PP8 ZR11 71 (Eq17x13.get (gjq17_0_0) ZR11 71 (by simp)) (by omega) (m := [(g14, NN3, 24), (g9, ZR1, 26), (g6, Pa, 26), (w.heap.size, Kx, 24)]) (fun p hp => by simp at hp; rcases hp with rfl | rfl | rfl | rfl <;> exact .inr ⟨by simp, by simp only; omega⟩)
      have Eq17x16 := Eq17x13.set (gjq17_0_0) PP8 ZR11 71 (Eq17x13.get (gjq17_0_0) ZR11 71 (by simp)) (by omega) (m := [(gjq17_0_0, PP8, 71), (gjq17_0_1, ZR11, 71)]) (fun p hp => by simp at hp; rcases hp with rfl | rfl <;> first | exact .inl rfl | exact .inr ⟨by simp, by simp only; omega⟩)
      generalize wq17x11.setRow (gjq17_0_0) PP8 = wq17x14 at *
      refine rdy [12] (ReadyF.op0 (.store 71 (.tmp 7) (.tmp 18)) rfl (fun o ho => exec_storeT71 wq17x14 (.tmp 7) (.tmp 18) ho (gjq17_0_1) rfl PP10 IPP10 rfl ZR11 71 (Eq17x16.get (gjq17_0_1) ZR11 71 (by simp)) SZZR11) (Hq17x15.set (gjq17_0_1) PP10 ZR11 71 (Eq17x16.get (gjq17_0_1) ZR11 71 (by simp)) (by omega) (fun p hp => by simp at hp; rcases hp with rfl | rfl | rfl | rfl <;> exact .inr ⟨by simp, by simp only; omega⟩)) ?_ ReadyF.nil)
      have Hq17x18 := Hq17x15.set (gjq17_0_1) PP10 ZR11 71 (Eq17x16.get (gjq17_0_1) ZR11 71 (by simp)) (by omega) (m := [(g14, NN3, 24), (g9, ZR1, 26), (g6, Pa, 26), (w.heap.size, Kx, 24)]) (fun p hp => by simp at hp; rcases hp with rfl | rfl | rfl | rfl <;> exact .inr ⟨by simp, by simp only; omega⟩)
      have Eq17x19 := Eq17x16.set (gjq17_0_1) PP10 ZR11 71 (Eq17x16.get (gjq17_0_1) ZR11 71 (by simp)) (by omega) (m := [(gjq17_0_0, PP8, 71), (gjq17_0_1, PP10, 71)]) (fun p hp => by simp at hp; rcases hp with rfl | rfl <;> first | exact .inl rfl | exact .inr ⟨by simp, by simp only; omega⟩)
      generalize wq17x14.setRow (gjq17_0_1) PP10 = wq17x17 at *
      refine AnyF.done (by kernel_rfl) ?_ _
      refine nrm_intro ⟨gjq17_0_0, gjq17_0_1, rfl, (Hq17x18.app Eq17x19).sub (fun p hp => by simp at hp; rcases hp with rfl | rfl | rfl | rfl | rfl <;> simp), by omega, by omega, by omega, by omega, by omega, by omega, by omega, by omega, by omega, by omega, by omega⟩
    intro Jq17_0
    refine tkG 0 (some 10) (.build 24 #[(0, .const (.int .u64 1))]) none (.agg NN6) (fun o ho w2 hw => exec_buildN _ 24 #[(0, .const (.int .u64 1))] ho #[(0, .int .u64 1)] (by simp [Act.eval]) _ (BF5 _)) HDq17x1 ?_
    simp only [Act.put, sT, sS, sZ]
    refine tkG 1 (some 11) (.build 24 #[(0, .const (.int .u64 1))]) none (.agg NN6) (fun o ho w2 hw => exec_buildN _ 24 #[(0, .const (.int .u64 1))] ho #[(0, .int .u64 1)] (by simp [Act.eval]) _ (BF5 _)) HDq17x1 ?_
    simp only [Act.put, sT, sS, sZ]
    refine tkG 2 (some 12) (.build 71 #[(1, .tmp 10), (2, .tmp 11)]) none (.agg PP8) (fun o ho w2 hw => exec_buildN _ 71 #[(1, .tmp 10), (2, .tmp 11)] ho #[(1, .agg NN6), (2, .agg NN6)] (by simp [Act.eval]) _ (BF7 _)) HDq17x1 ?_
    simp only [Act.put, sT, sS, sZ]
    refine tkG 3 (some 13) (.fieldAddr 26 (.tmp 3) 0) none (.pointer (some ⟨g6, 0, none⟩)) (fun o ho w2 hw => exec_field 26 (.tmp 3) 0 ho _ _ rfl w2 (fa26_0 (g6) w2)) HDq17x1 ?_
    simp only [Act.put, sT, sS, sZ]
    refine tkG 4 (some 14) (.load 24 (.tmp 13)) none (.agg Px) (fun o ho w2 hw => exec_load_of _ 24 (.tmp 13) ho ⟨g6, 0, none⟩ rfl _ (load_part (hw.get (g6) Pa 26 (by simp)) IPx 0 SPa_0)) HDq17x1 ?_
    simp only [Act.put, sT, sS, sZ]
    refine tkG 5 (some 15) (.fieldAddr 26 (.tmp 3) 1) none (.pointer (some ⟨g6, 4, none⟩)) (fun o ho w2 hw => exec_field 26 (.tmp 3) 1 ho _ _ rfl w2 (fa26_1 (g6) w2)) HDq17x1 ?_
    simp only [Act.put, sT, sS, sZ]
    refine tkG 6 (some 16) (.load 24 (.tmp 15)) none (.agg Py) (fun o ho w2 hw => exec_load_of _ 24 (.tmp 15) ho ⟨g6, 4, none⟩ rfl _ (load_part (hw.get (g6) Pa 26 (by simp)) IPy 4 SPa_4)) HDq17x1 ?_
    simp only [Act.put, sT, sS, sZ]
    refine tkG 7 (some 17) (.build 24 #[(0, .const (.int .u64 1))]) none (.agg NN6) (fun o ho w2 hw => exec_buildN _ 24 #[(0, .const (.int .u64 1))] ho #[(0, .int .u64 1)] (by simp [Act.eval]) _ (BF5 _)) HDq17x1 ?_
    simp only [Act.put, sT, sS, sZ]
    refine tkG 8 (some 18) (.build 71 #[(0, .tmp 14), (1, .tmp 16), (2, .tmp 17)]) none (.agg PP10) (fun o ho w2 hw => exec_buildN _ 71 #[(0, .tmp 14), (1, .tmp 16), (2, .tmp 17)] ho #[(0, .agg Px), (1, .agg Py), (2, .agg NN6)] (by simp [Act.eval]) _ (BF9 _)) HDq17x1 ?_
    simp only [Act.put, sT, sS, sZ]
    refine rdy [9, 10] (ral 6 71 HZ71 (HDq17x1.alloc _) ?_ (ral 7 71 HZ71 (HDq17x1.alloc _) ?_ ReadyF.nil))
    · have l0wq17x20 := HDq17x1.lt (g14) NN3 24 (by simp)
      have l1wq17x20 := HDq17x1.lt (g9) ZR1 26 (by simp)
      have l2wq17x20 := HDq17x1.lt (g6) Pa 26 (by simp)
      have l3wq17x20 := HDq17x1.lt (w.heap.size) Kx 24 (by simp)
      have bwq17x20 := HDq17x1.1.size
      have Hq17x21 := HDq17x1.alloc (.cells ZR11 71)
      have Eq17x22 := (HDq17x1.sub (m := []) (fun p hp => by cases hp)).new ZR11 71
      simp only [Act.put, sT, sS, sZ]
      obtain ⟨wq17x20, hwq17x20⟩ : ∃ W, W = wdq17x2.alloc (.cells ZR11 71) := ⟨_, rfl⟩
      rw [← hwq17x20] at Hq17x21 Eq17x22 ⊢
      clear hwq17x20
      refine rdy [10] (ral 7 71 HZ71 (Hq17x21.alloc _) ?_ ReadyF.nil)
      have l0wq17x23 := Hq17x21.lt (g14) NN3 24 (by simp)
      have l1wq17x23 := Hq17x21.lt (g9) ZR1 26 (by simp)
      have l2wq17x23 := Hq17x21.lt (g6) Pa 26 (by simp)
      have l3wq17x23 := Hq17x21.lt (w.heap.size) Kx 24 (by simp)
      have m0wq17x23 := Eq17x22.lt (wdq17x2.heap.size) ZR11 71 (by simp)
      have bwq17x23 := Hq17x21.1.size
      have Hq17x24 := Hq17x21.alloc (.cells ZR11 71)
      have Eq17x25 := Eq17x22.new ZR11 71
      simp only [Act.put, sT, sS, sZ]
      obtain ⟨wq17x23, hwq17x23⟩ : ∃ W, W = wq17x20.alloc (.cells ZR11 71) := ⟨_, rfl⟩
      rw [← hwq17x23] at Hq17x24 Eq17x25 ⊢
      clear hwq17x23
      exact F_to (by kernel_rfl) (by kernel_rfl) (Jq17_0 _ _ ⟨wdq17x2.heap.size, wq17x20.heap.size, rfl, Hq17x24, Eq17x25.sub (fun p hp => by simp at hp; rcases hp with rfl | rfl <;> simp), by omega, by omega, by omega, by omega, by omega, by omega, by omega, by omega, by omega, by omega, by omega⟩)
    · have l0wq17x26 := HDq17x1.lt (g14) NN3 24 (by simp)
      have l1wq17x26 := HDq17x1.lt (g9) ZR1 26 (by simp)
      have l2wq17x26 := HDq17x1.lt (g6) Pa 26 (by simp)
      have l3wq17x26 := HDq17x1.lt (w.heap.size) Kx 24 (by simp)
      have bwq17x26 := HDq17x1.1.size
      have Hq17x27 := HDq17x1.alloc (.cells ZR11 71)
      have Eq17x28 := (HDq17x1.sub (m := []) (fun p hp => by cases hp)).new ZR11 71
      simp only [Act.put, sT, sS, sZ]
      obtain ⟨wq17x26, hwq17x26⟩ : ∃ W, W = wdq17x2.alloc (.cells ZR11 71) := ⟨_, rfl⟩
      rw [← hwq17x26] at Hq17x27 Eq17x28 ⊢
      clear hwq17x26
      refine rdy [9] (ral 6 71 HZ71 (Hq17x27.alloc _) ?_ ReadyF.nil)
      have l0wq17x29 := Hq17x27.lt (g14) NN3 24 (by simp)
      have l1wq17x29 := Hq17x27.lt (g9) ZR1 26 (by simp)
      have l2wq17x29 := Hq17x27.lt (g6) Pa 26 (by simp)
      have l3wq17x29 := Hq17x27.lt (w.heap.size) Kx 24 (by simp)
      have m0wq17x29 := Eq17x28.lt (wdq17x2.heap.size) ZR11 71 (by simp)
      have bwq17x29 := Hq17x27.1.size
      have Hq17x30 := Hq17x27.alloc (.cells ZR11 71)
      have Eq17x31 := Eq17x28.new ZR11 71
      simp only [Act.put, sT, sS, sZ]
      obtain ⟨wq17x29, hwq17x29⟩ : ∃ W, W = wq17x26.alloc (.cells ZR11 71) := ⟨_, rfl⟩
      rw [← hwq17x29] at Hq17x30 Eq17x31 ⊢
      clear hwq17x29
      exact F_to (by kernel_rfl) (by kernel_rfl) (Jq17_0 _ _ ⟨wq17x26.heap.size, wdq17x2.heap.size, rfl, Hq17x30, Eq17x31, by omega, by omega, by omega, by omega, by omega, by omega, by omega, by omega, by omega, by omega, by omega⟩)
  rintro a' w18 ⟨gq17s0, gq17s1, rfl, hk, e20, e21, e22, e23, e24, e25, e26, e27, e28, e29, e30⟩
  have HS19 := Lib.hid hk
  clear hk HS16
  have HI : Hid (Kt w [(w.heap.size, Kx, 24), (g9, ZR1, 26), (g14, NN3, 24), (gq17s0, PP8, 71), (gq17s1, PP10, 71)] w18) := Lib.hid (HS19.out.sub (fun p hp => by simp at hp; rcases hp with rfl | rfl | rfl | rfl | rfl <;> simp))
  clear HS19
  go_wp2
  go_loopw [8] (fun i wr => ∃ q : Nat, q ≤ 256 ∧ i = .int .i64 ((q : Int) - 1) ∧ Kt w [(w.heap.size, Kx, 24), (g9, ZR1, 26), (g14, NN3, 24), (gq17s0, threeV (fastN p (bitsTo k (256 - q))), 71), (gq17s1, PP10, 71)] wr) (fun i _ => (1 + intOf i).toNat)
  case atStart => exact ⟨256, by omega, rfl, by rw [← ET0.out]; exact HI.out⟩
  case round =>
    clear HI ET0
    obtain ⟨q, hq, rfl, HK0⟩ := hrel
    cases q with
    | zero =>
      rw [Nat.sub_zero] at HK0
      obtain ⟨F, hF⟩ : ∃ F, Hid (F = threeV (fastN p (bitsTo k 256))) := ⟨_, Lib.hid rfl⟩
      have IF : IsRw 12 F := by rw [hF.out]; exact threeV_rw _
      rw [← hF.out] at HK0 G3
      have HK := Lib.hid HK0
      clear HK0 hF G1 G2 HBIT HDL EQ0 EK
      have HSz1 : Hid (Kt w [(g9, ZR1, 26), (gq17s0, F, 71)] wr) := Lib.hid (HK.out.sub (fun p hp => by simp at hp; rcases hp with rfl | rfl <;> simp))
      clear HK
      go_wp2_with (
        refine wpList_run rfl (.agg F) (exec_load_of _ 71 (.tmp 6) rfl ⟨gq17s0, 0, none⟩ rfl _ (loadT71 IF (HSz1.out.get (gq17s0) F 71 (by simp)))) ?_
        simp only [Act.put, sT, sS, sZ]
        refine wpList_callF rfl 46 #[.tmp 40] #[71] rfl #[.agg F] en46 (G3.out _) ?_
        rintro v wz2 ⟨he, hb⟩
        cases he
        have HSz3 := Lib.hid (HSz1.out.below hb)
        clear hb HSz1
        simp only [Act.put, sT, sS, sZ]
        refine wpList_run0 rfl (exec_storeT26 _ (.tmp 4) (.tmp 41) rfl (g9) rfl R IR rfl ZR1 26 (HSz3.out.get (g9) ZR1 26 (by simp)) SZZR1) ?_
        simp only [Act.put, sT, sS, sZ]
        have HSz5 : Hid (Kt w [(g9, R, 26), (gq17s0, F, 71)] (wz2.setRow (g9) R)) := Lib.hid (HSz3.out.set (g9) R ZR1 26 (HSz3.out.get (g9) ZR1 26 (by simp)) (by omega) (fun p hp => by simp at hp; rcases hp with rfl | rfl <;> first | exact .inl rfl | exact .inr ⟨by simp, by simp only; omega⟩))
        clear HSz3
        generalize wz2.setRow (g9) R = wz4 at *)
      go_wp2
      exact bodyPost_ret (results_cell rfl _ _ _ ⟨g9, 0, none⟩ rfl _ (loadT26 IR (HSz5.out.get (g9) R 26 (by simp)))) rfl ⟨rfl, HSz5.out.1⟩
    | succ q =>
      have e1 : (((q + 1 : Nat) : Int) - 1) = (q : Int) := by omega
      rw [e1]
      obtain ⟨t, ht⟩ : ∃ t, Hid (t = fastN p (bitsTo k (256 - (q + 1)))) := ⟨_, Lib.hid rfl⟩
      have hbits : bitsTo k (256 - q) = bitsTo k (256 - (q + 1)) ++ [bitB k q] := by
        rw [show 256 - q = (256 - (q + 1)) + 1 by omega, bitsTo_succ, show 255 - (256 - (q + 1)) = q by omega]
      have hnx : fastN p (bitsTo k (256 - q)) = if bitB k q then plusN (plusN t t) (p.1, p.2, 1) else plusN t t := by rw [hbits, fastN_snoc, ← ht.out]
      have hb3 : B3 t := by rw [ht.out]; exact fastN_b3 _ _
      have hbit := HBIT.out q (by omega)
      rw [← ht.out] at HK0
      have G4 := Lib.hid (fun W => G1.out t W hb3)
      have G5 := Lib.hid (fun W => G2.out (plusN t t) W (plusN_b3 t t))
      obtain ⟨j, hj⟩ : ∃ j, Hid (j = q / 64) := ⟨_, Lib.hid rfl⟩
      obtain ⟨s, hs⟩ : ∃ s, Hid (s = q % 64) := ⟨_, Lib.hid rfl⟩
      have hs64 : s < 64 := by rw [hs.out]; omega
      have hj4 : j < 4 := by rw [hj.out]; omega
      rw [← hj.out, ← hs.out] at hbit
      obtain ⟨sh, hsh⟩ : ∃ sh, Hid (sh = dig k j / 2 ^ s) := ⟨_, Lib.hid rfl⟩
      rw [← hsh.out] at hbit
      have hshl : sh < 18446744073709551616 := by rw [hsh.out]; exact Nat.lt_of_le_of_lt (Nat.div_le_self _ _) (HDL.out j)
      have hqI : (0 : Int) ≤ (q : Int) := by omega
      have hq1 : q < 1000 := by omega
      obtain ⟨r, hr⟩ : ∃ r, Hid (r = sh % 2) := ⟨_, Lib.hid rfl⟩
      rw [← hr.out] at hbit
      obtain ⟨Dg, hDg⟩ : ∃ Dg, Dg = dig k j := ⟨_, rfl⟩
      have cK : Kx[j]? = some (.int .u64 (Dg : Int)) := by rw [EK.out, hDg, num_get k j hj4]
      rw [← hDg] at hsh
      have hr2 : r < 2 := by rw [hr.out]; omega
      have hnx2 : Hid (threeV (fastN p (bitsTo k (256 - q))) = if r = 1 then threeV (plusN (plusN t t) (p.1, p.2, 1)) else threeV (plusN t t)) := by
        unfold Hid
        rw [hnx]
        unfold bitB
        rw [← hbit]
        rcases (show r = 0 ∨ r = 1 by omega) with h | h <;> rw [h] <;> rfl
      obtain ⟨TT, hTT⟩ : ∃ X, Hid (X = threeV t) := ⟨_, Lib.hid rfl⟩
      obtain ⟨T2, hT2⟩ : ∃ X, Hid (X = threeV (plusN t t)) := ⟨_, Lib.hid rfl⟩
      obtain ⟨T3, hT3⟩ : ∃ X, Hid (X = threeV (plusN (plusN t t) (p.1, p.2, 1))) := ⟨_, Lib.hid rfl⟩
      have ITT : IsRw 12 TT := by rw [hTT.out]; exact threeV_rw _
      have IT2 : IsRw 12 T2 := by rw [hT2.out]; exact threeV_rw _
      have IT3 : IsRw 12 T3 := by rw [hT3.out]; exact threeV_rw _
      rw [← hT2.out, ← hT3.out] at hnx2
      rw [← hTT.out, ← hT2.out] at G4
      rw [← hT2.out, ← hT3.out] at G5
      rw [← hTT.out] at HK0
      have HK := Lib.hid HK0
      clear HK0 hTT hT2 hT3 hDg hbit hnx hbits ht hb3 G1 G2 G3 HBIT HDL EQ0 EK e1
      by_cases hr1 : r = 1
      · have hbt : Hid (true = ((r : Int) == 1)) := Lib.hid (by simp [hr1])
        rw [if_pos hr1] at hnx2
        clear hr1
        go_upto_region 6 with fail
        refine wp_region_list ?_
        refine wpList_run rfl (.agg TT) (exec_load_of _ 71 (.tmp 6) rfl ⟨gq17s0, 0, none⟩ rfl _ (loadT71 ITT (HK.out.get (gq17s0) TT 71 (by simp)))) ?_
        simp only [Act.put, sT, sS, sZ]
        refine wpList_run rfl (.agg TT) (exec_load_of _ 71 (.tmp 6) rfl ⟨gq17s0, 0, none⟩ rfl _ (loadT71 ITT (HK.out.get (gq17s0) TT 71 (by simp)))) ?_
        simp only [Act.put, sT, sS, sZ]
        refine wpList_run rfl (.agg NN3) (exec_load_of _ 24 (.tmp 5) rfl ⟨g14, 0, none⟩ rfl _ (loadA24 INN3 (HK.out.get (g14) NN3 24 (by simp)))) ?_
        simp only [Act.put, sT, sS, sZ]
        refine wpList_callF rfl 47 #[.tmp 23, .tmp 24, .tmp 25] #[71, 71, 24] rfl #[.agg TT, .agg TT, .agg NN3] en47 (G4.out _) ?_
        rintro v wy1 ⟨he, hb⟩
        cases he
        have HSy2 := Lib.hid (HK.out.below hb)
        clear hb HK
        simp only [Act.put, sT, sS, sZ]
        refine wpList_run0 rfl (exec_storeT71 _ (.tmp 6) (.tmp 26) rfl (gq17s0) rfl T2 IT2 rfl TT 71 (HSy2.out.get (gq17s0) TT 71 (by simp)) ITT.sz) ?_
        simp only [Act.put, sT, sS, sZ]
        have HSy4 : Hid (Kt w [(w.heap.size, Kx, 24), (g9, ZR1, 26), (g14, NN3, 24), (gq17s0, T2, 71), (gq17s1, PP10, 71)] (wy1.setRow (gq17s0) T2)) := Lib.hid (HSy2.out.set (gq17s0) T2 TT 71 (HSy2.out.get (gq17s0) TT 71 (by simp)) (by omega) (fun p hp => by simp at hp; rcases hp with rfl | rfl | rfl | rfl | rfl <;> first | exact .inl rfl | exact .inr ⟨by simp, by simp only; omega⟩))
        clear HSy2
        generalize wy1.setRow (gq17s0) T2 = wy3 at *
        refine wpList_nil ?_
        go_upto_region 7 with fail
        refine wp_region_list ?_
        refine wpList_run rfl (.int .i64 (q : Int)) (exec_move (.tmp 8) rfl _ rfl _) ?_
        simp only [Act.put, sT, sS, sZ]
        refine wpList_run rfl (.int .i64 (j : Int)) (exec_quo64 (.tmp 27) rfl rfl q j hq1 rfl hj.out _) ?_
        simp only [Act.put, sT, sS, sZ]
        refine wpList_run rfl (.pointer (some ⟨w.heap.size, j, none⟩)) (exec_indexAddr24 (.tmp 2) (.tmp 28) rfl (w.heap.size) j rfl rfl hj4 _) ?_
        simp only [Act.put, sT, sS, sZ]
        refine wpList_run rfl (.int .u64 (Dg : Int)) (exec_load_one _ 22 (.tmp 29) rfl ⟨w.heap.size, j, none⟩ rfl _ ((cell_of_row _ (w.heap.size) j Kx 24 (0, 0) (HSy4.out.get (w.heap.size) Kx 24 (by simp))).trans cK) _ Tryd.underlying22 rfl) ?_
        simp only [Act.put, sT, sS, sZ]
        refine wpList_run rfl (.int .i64 (q : Int)) (exec_move (.tmp 8) rfl _ rfl _) ?_
        simp only [Act.put, sT, sS, sZ]
        refine wpList_run rfl (.int .i64 (s : Int)) (exec_rem64 (.tmp 31) rfl rfl q s hq1 rfl hs.out _) ?_
        simp only [Act.put, sT, sS, sZ]
        refine wpList_run rfl (.int .u64 (sh : Int)) (exec_shr (.tmp 30) (.tmp 32) rfl Dg s hs64 rfl rfl sh hsh.out _) ?_
        simp only [Act.put, sT, sS, sZ]
        refine wpList_run rfl (.int .u64 (r : Int)) (exec_and22 (.tmp 33) rfl rfl sh r hshl rfl hr.out _) ?_
        simp only [Act.put, sT, sS, sZ]
        refine wpList_run rfl (.bool true) (exec_eql22 (.tmp 34) rfl rfl r true rfl hbt.out _) ?_
        simp only [Act.put, sT, sS, sZ]
        refine wpList_nil ?_
        go_upto_region 8 with fail
        refine wp_region_list ?_
        refine wpList_run rfl (.agg T2) (exec_load_of _ 71 (.tmp 6) rfl ⟨gq17s0, 0, none⟩ rfl _ (loadT71 IT2 (HSy4.out.get (gq17s0) T2 71 (by simp)))) ?_
        simp only [Act.put, sT, sS, sZ]
        refine wpList_run rfl (.agg PP10) (exec_load_of _ 71 (.tmp 7) rfl ⟨gq17s1, 0, none⟩ rfl _ (loadT71 IPP10 (HSy4.out.get (gq17s1) PP10 71 (by simp)))) ?_
        simp only [Act.put, sT, sS, sZ]
        refine wpList_run rfl (.agg NN3) (exec_load_of _ 24 (.tmp 5) rfl ⟨g14, 0, none⟩ rfl _ (loadA24 INN3 (HSy4.out.get (g14) NN3 24 (by simp)))) ?_
        simp only [Act.put, sT, sS, sZ]
        refine wpList_callF rfl 47 #[.tmp 36, .tmp 37, .tmp 38] #[71, 71, 24] rfl #[.agg T2, .agg PP10, .agg NN3] en47 (G5.out _) ?_
        rintro v wy5 ⟨he, hb⟩
        cases he
        have HSy6 := Lib.hid (HSy4.out.below hb)
        clear hb HSy4
        simp only [Act.put, sT, sS, sZ]
        refine wpList_run0 rfl (exec_storeT71 _ (.tmp 6) (.tmp 39) rfl (gq17s0) rfl T3 IT3 rfl T2 71 (HSy6.out.get (gq17s0) T2 71 (by simp)) IT2.sz) ?_
        simp only [Act.put, sT, sS, sZ]
        have HSy8 : Hid (Kt w [(w.heap.size, Kx, 24), (g9, ZR1, 26), (g14, NN3, 24), (gq17s0, T3, 71), (gq17s1, PP10, 71)] (wy5.setRow (gq17s0) T3)) := Lib.hid (HSy6.out.set (gq17s0) T3 T2 71 (HSy6.out.get (gq17s0) T2 71 (by simp)) (by omega) (fun p hp => by simp at hp; rcases hp with rfl | rfl | rfl | rfl | rfl <;> first | exact .inl rfl | exact .inr ⟨by simp, by simp only; omega⟩))
        clear HSy6
        generalize wy5.setRow (gq17s0) T3 = wy7 at *
        refine wpList_nil ?_
        go_wp2
        go_roundw
        case rel => exact ⟨q, by omega, by first | rfl | simp | go_num, by rw [hnx2.out]; exact HSy8.out⟩
        case measure => simp [intOf]; omega
      · have hbt : Hid (false = ((r : Int) == 1)) := Lib.hid (by symm; simp; omega)
        rw [if_neg hr1] at hnx2
        clear hr1
        go_upto_region 6 with fail
        refine wp_region_list ?_
        refine wpList_run rfl (.agg TT) (exec_load_of _ 71 (.tmp 6) rfl ⟨gq17s0, 0, none⟩ rfl _ (loadT71 ITT (HK.out.get (gq17s0) TT 71 (by simp)))) ?_
        simp only [Act.put, sT, sS, sZ]
        refine wpList_run rfl (.agg TT) (exec_load_of _ 71 (.tmp 6) rfl ⟨gq17s0, 0, none⟩ rfl _ (loadT71 ITT (HK.out.get (gq17s0) TT 71 (by simp)))) ?_
        simp only [Act.put, sT, sS, sZ]
        refine wpList_run rfl (.agg NN3) (exec_load_of _ 24 (.tmp 5) rfl ⟨g14, 0, none⟩ rfl _ (loadA24 INN3 (HK.out.get (g14) NN3 24 (by simp)))) ?_
        simp only [Act.put, sT, sS, sZ]
        refine wpList_callF rfl 47 #[.tmp 23, .tmp 24, .tmp 25] #[71, 71, 24] rfl #[.agg TT, .agg TT, .agg NN3] en47 (G4.out _) ?_
        rintro v wn1 ⟨he, hb⟩
        cases he
        have HSn2 := Lib.hid (HK.out.below hb)
        clear hb HK
        simp only [Act.put, sT, sS, sZ]
        refine wpList_run0 rfl (exec_storeT71 _ (.tmp 6) (.tmp 26) rfl (gq17s0) rfl T2 IT2 rfl TT 71 (HSn2.out.get (gq17s0) TT 71 (by simp)) ITT.sz) ?_
        simp only [Act.put, sT, sS, sZ]
        have HSn4 : Hid (Kt w [(w.heap.size, Kx, 24), (g9, ZR1, 26), (g14, NN3, 24), (gq17s0, T2, 71), (gq17s1, PP10, 71)] (wn1.setRow (gq17s0) T2)) := Lib.hid (HSn2.out.set (gq17s0) T2 TT 71 (HSn2.out.get (gq17s0) TT 71 (by simp)) (by omega) (fun p hp => by simp at hp; rcases hp with rfl | rfl | rfl | rfl | rfl <;> first | exact .inl rfl | exact .inr ⟨by simp, by simp only; omega⟩))
        clear HSn2
        generalize wn1.setRow (gq17s0) T2 = wn3 at *
        refine wpList_nil ?_
        go_upto_region 7 with fail
        refine wp_region_list ?_
        refine wpList_run rfl (.int .i64 (q : Int)) (exec_move (.tmp 8) rfl _ rfl _) ?_
        simp only [Act.put, sT, sS, sZ]
        refine wpList_run rfl (.int .i64 (j : Int)) (exec_quo64 (.tmp 27) rfl rfl q j hq1 rfl hj.out _) ?_
        simp only [Act.put, sT, sS, sZ]
        refine wpList_run rfl (.pointer (some ⟨w.heap.size, j, none⟩)) (exec_indexAddr24 (.tmp 2) (.tmp 28) rfl (w.heap.size) j rfl rfl hj4 _) ?_
        simp only [Act.put, sT, sS, sZ]
        refine wpList_run rfl (.int .u64 (Dg : Int)) (exec_load_one _ 22 (.tmp 29) rfl ⟨w.heap.size, j, none⟩ rfl _ ((cell_of_row _ (w.heap.size) j Kx 24 (0, 0) (HSn4.out.get (w.heap.size) Kx 24 (by simp))).trans cK) _ Tryd.underlying22 rfl) ?_
        simp only [Act.put, sT, sS, sZ]
        refine wpList_run rfl (.int .i64 (q : Int)) (exec_move (.tmp 8) rfl _ rfl _) ?_
        simp only [Act.put, sT, sS, sZ]
        refine wpList_run rfl (.int .i64 (s : Int)) (exec_rem64 (.tmp 31) rfl rfl q s hq1 rfl hs.out _) ?_
        simp only [Act.put, sT, sS, sZ]
        refine wpList_run rfl (.int .u64 (sh : Int)) (exec_shr (.tmp 30) (.tmp 32) rfl Dg s hs64 rfl rfl sh hsh.out _) ?_
        simp only [Act.put, sT, sS, sZ]
        refine wpList_run rfl (.int .u64 (r : Int)) (exec_and22 (.tmp 33) rfl rfl sh r hshl rfl hr.out _) ?_
        simp only [Act.put, sT, sS, sZ]
        refine wpList_run rfl (.bool false) (exec_eql22 (.tmp 34) rfl rfl r false rfl hbt.out _) ?_
        simp only [Act.put, sT, sS, sZ]
        refine wpList_nil ?_
        go_wp2
        go_roundw
        case rel => exact ⟨q, by omega, by first | rfl | simp | go_num, by rw [hnx2.out]; exact HSn4.out⟩
        case measure => simp [intOf]; omega
end Go.Proofs.YtgbliacncahooaaDoor
