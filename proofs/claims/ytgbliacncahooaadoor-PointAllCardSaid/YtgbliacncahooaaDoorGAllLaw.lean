/- The law PointAll walked: it returns true at any two numbers and text, and no memory that was there is changed. No condition but that the numbers have 256 bits, and that the package's stand in memory. -/
import Derived.Test.YtgbliacncahooaaDoorGAwakeP
import Derived.Test.YtgbliacncahooaaDoorGFromPt
import Derived.Test.YtgbliacncahooaaDoorGOn
import Derived.Test.YtgbliacncahooaaDoorGRBase
import Derived.Test.YtgbliacncahooaaDoorGRFromP
import Derived.Test.YtgbliacncahooaaDoorGROn
namespace Go.Proofs.YtgbliacncahooaaDoor
open Go.RowKit Go.Shelf
set_option linter.unusedVariables false
set_option linter.unusedSimpArgs false
theorem exec_gtr60 {ρ : Operand → Value} {o : Oper} (x : Operand) (ho : o.op = .binOp .gtr 3 x (.const (.int .i64 60)) 3) (hc : ρ (.const (.int .i64 60)) = .int .i64 60) (n : Nat) (b : Bool) (hb : decide ((60 : Int) < (n : Int)) = b) (hx : ρ x = .int .i64 (n : Int)) (w : World) :
    (execOp ρ o).run Tryd.prog w = .ok (.value (.bool b)) w := by
  unfold execOp
  rw [ho]
  simp only [hx, hc]
  go_simp
theorem spot_b {P : Array Value} (hP : IsRw 8 P) (b : Bool) : (P ++ #[.bool b])[8]? = some (.bool b) := by
  rw [Array.getElem?_append_right (by rw [hP.sz]; exact Nat.le_refl 8), hP.sz]
  rfl
set_option maxRecDepth 100000 in
set_option maxHeartbeats 2000000 in
theorem all_long (x y : Nat) (s : ByteArray) (hx : x < 115792089237316195423570985008687907853269984665640564039457584007913129639936) (hy : y < 115792089237316195423570985008687907853269984665640564039457584007913129639936) (hs : s.size ≤ maxLen) (hq : 60 < s.size) (w : World) (hT0 : GlobT w) (hG0 : Glob w) :
    Calls Tryd.prog 3 #[.agg (num x ++ num y), .string s] w fun e w' => e = .returned (.bool true) ∧ Below w.heap.size w w' := by
  have HG := Lib.hid hG0
  have HT := Lib.hid hT0
  obtain ⟨n, hn⟩ : ∃ n, n = s.size := ⟨_, rfl⟩
  have hlen : Hid (s.size = n) := Lib.hid hn.symm
  have hgb : Hid (decide ((60 : Int) < (n : Int)) = true) := Lib.hid (by simp; omega)
  have HC1 : Hid (∀ w, Glob w → _) := Lib.hid (awake_any)
  obtain ⟨X, hX⟩ : ∃ zz9, Hid (zz9 = num (x)) := ⟨_, Lib.hid rfl⟩
  have IX : IsNum X := by rw [hX.out]; exact isNum _
  obtain ⟨Y, hY⟩ : ∃ zz9, Hid (zz9 = num (y)) := ⟨_, Lib.hid rfl⟩
  have IY : IsNum Y := by rw [hY.out]; exact isNum _
  obtain ⟨Pa, hPa⟩ : ∃ zz9, Hid (zz9 = X ++ Y) := ⟨_, Lib.hid rfl⟩
  have IPa : IsRw 8 Pa := by rw [hPa.out]; exact rw_app (isRw4 IX) (isRw4 IY)
  have SPa_0 : Part Pa 0 X := by rw [hPa.out]; exact part_left 0 (part_all X) Y
  have SPa_4 : Part Pa 4 Y := by rw [hPa.out]; exact part_right (X) Y 4 (by simp [IX.size])
  try simp only [← hX.out, ← hY.out] at HC1 ⊢
  try simp only [← hPa.out] at HC1 ⊢
  clear hX hY hPa hx hy hs hq hn hG0 hT0
  go_enter Tryd.func3, Tryd.ntmps3
  have HS : Hid (Kt w [] w) := Lib.hid (Kt.nil w)
  go_upto_region 0 with fail
  refine wp_region_list ?_
  refine wpList_run rfl _ (exec_box _ 26 (.tmp 0) rfl _ rfl (Pa) rfl) ?_
  simp only [Act.put, sT, sS, sZ]
  have bg3 := HS.out.1.size
  have HS2 := Lib.hid (HS.out.new Pa 26)
  clear HS
  generalize w.alloc (.cells Pa 26) = w1 at *
  refine wpList_run rfl (.bool false) (exec_assign (.const (.bool false)) rfl _ rfl _) ?_
  simp only [Act.put, sT, sS, sZ]
  refine wpList_nil ?_
  have HS4 : Hid (Kt w [] w1) := Lib.hid (HS2.out.sub (fun p hp => by cases hp))
  clear HS2
  go_upto_region 1 with fail
  refine wp_region_list ?_
  refine wpList_run rfl (.string s) (exec_move (.tmp 1) rfl _ rfl _) ?_
  simp only [Act.put, sT, sS, sZ]
  refine wpList_run rfl (.int .i64 (n : Int)) (exec_len9 (.tmp 8) rfl s n hlen.out rfl _) ?_
  simp only [Act.put, sT, sS, sZ]
  refine wpList_run rfl (.bool true) (exec_gtr60 (.tmp 9) rfl rfl n true hgb.out rfl _) ?_
  simp only [Act.put, sT, sS, sZ]
  refine wpList_nil ?_
  go_upto_region 2 with fail
  refine wp_region_list ?_
  refine wpList_callF rfl 10 #[] #[] rfl #[] en10 (HC1.out _ (HG.out.below HS4.out.1)) ?_
  rintro v w5 ⟨he, hb⟩
  cases he
  have HS6 := Lib.hid (HS4.out.below hb)
  clear hb HS4
  simp only [Act.put, sT, sS, sZ]
  refine wpList_run rfl (.bool true) (exec_assign (.tmp 11) rfl _ rfl _) ?_
  simp only [Act.put, sT, sS, sZ]
  refine wpList_nil ?_
  go_wp2
  go_ret
  exact ⟨rfl, HS6.out.1⟩
set_option maxRecDepth 100000 in
set_option maxHeartbeats 2000000 in
theorem all_short (x y : Nat) (s : ByteArray) (hx : x < 115792089237316195423570985008687907853269984665640564039457584007913129639936) (hy : y < 115792089237316195423570985008687907853269984665640564039457584007913129639936) (hs : s.size ≤ maxLen) (hq : ¬ 60 < s.size) (w : World) (hT0 : GlobT w) (hG0 : Glob w) :
    Calls Tryd.prog 3 #[.agg (num x ++ num y), .string s] w fun e w' => e = .returned (.bool true) ∧ Below w.heap.size w w' := by
  have HG := Lib.hid hG0
  have HT := Lib.hid hT0
  obtain ⟨n, hn⟩ : ∃ n, n = s.size := ⟨_, rfl⟩
  have hlen : Hid (s.size = n) := Lib.hid hn.symm
  have hgb : Hid (decide ((60 : Int) < (n : Int)) = false) := Lib.hid (by simp; omega)
  have HC5 : Hid (∀ w, GlobT w → Glob w → _) := Lib.hid (from_pt s)
  dsimp only [ptV] at HC5
  have HC6 := Lib.hid (rfrom_pt s)
  dsimp only [ptV] at HC6
  have HC10 : Hid (∀ w, Glob w → _) := Lib.hid (on_any (x) (y) hx hy)
  have HC11 := Lib.hid (ron_any (x) (y) hx hy)
  have HC12 : Hid (∀ w, Glob w → _) := Lib.hid (base_any)
  have HC16 := Lib.hid (rbase_any)
  have HC17 : Hid (∀ w, Glob w → _) := Lib.hid (awake_any)
  obtain ⟨X, hX⟩ : ∃ zz9, Hid (zz9 = num (x)) := ⟨_, Lib.hid rfl⟩
  have IX : IsNum X := by rw [hX.out]; exact isNum _
  obtain ⟨Y, hY⟩ : ∃ zz9, Hid (zz9 = num (y)) := ⟨_, Lib.hid rfl⟩
  have IY : IsNum Y := by rw [hY.out]; exact isNum _
  obtain ⟨Pa, hPa⟩ : ∃ zz9, Hid (zz9 = X ++ Y) := ⟨_, Lib.hid rfl⟩
  have IPa : IsRw 8 Pa := by rw [hPa.out]; exact rw_app (isRw4 IX) (isRw4 IY)
  have SPa_0 : Part Pa 0 X := by rw [hPa.out]; exact part_left 0 (part_all X) Y
  have SPa_4 : Part Pa 4 Y := by rw [hPa.out]; exact part_right (X) Y 4 (by simp [IX.size])
  obtain ⟨NN1, hNN1⟩ : ∃ zz9, Hid (zz9 = num ((fromP s).1.1)) := ⟨_, Lib.hid rfl⟩
  have INN1 : IsNum NN1 := by rw [hNN1.out]; exact isNum _
  obtain ⟨NN2, hNN2⟩ : ∃ zz9, Hid (zz9 = num ((fromP s).1.2)) := ⟨_, Lib.hid rfl⟩
  have INN2 : IsNum NN2 := by rw [hNN2.out]; exact isNum _
  obtain ⟨PP3, hPP3⟩ : ∃ zz9, Hid (zz9 = NN1 ++ NN2) := ⟨_, Lib.hid rfl⟩
  have IPP3 : IsRw 8 PP3 := by rw [hPP3.out]; exact rw_app (isRw4 INN1) (isRw4 INN2)
  have SPP3_0 : Part PP3 0 NN1 := by rw [hPP3.out]; exact part_left 0 (part_all NN1) NN2
  have SPP3_4 : Part PP3 4 NN2 := by rw [hPP3.out]; exact part_right (NN1) NN2 4 (by simp [INN1.size])
  obtain ⟨bb4, hbb4⟩ : ∃ zz9, Hid (zz9 = (fromP s).2) := ⟨_, Lib.hid rfl⟩
  obtain ⟨SPf, hSPf⟩ : ∃ zz9, Hid (zz9 = PP3 ++ #[.bool bb4]) := ⟨_, Lib.hid rfl⟩
  have ISPf : IsSpot SPf := by rw [hSPf.out]; exact spot_of IPP3 bb4
  have SSPf_0 : Part SPf 0 PP3 := by rw [hSPf.out]; exact part_left 0 (part_all PP3) _
  have CSPf_8 : SPf[8]? = some (.bool bb4) := by rw [hSPf.out]; exact spot_b IPP3 bb4
  obtain ⟨ZR7, hZR7⟩ : ∃ zz9, Hid (zz9 = (rowOf .u64 8 (fun _ => 0)).toArray) := ⟨_, Lib.hid rfl⟩
  have SZZR7 : ZR7.size = 8 := by rw [hZR7.out]; rfl
  obtain ⟨ZR8, hZR8⟩ : ∃ zz9, Hid (zz9 = spotV (fun _ => 0) false) := ⟨_, Lib.hid rfl⟩
  have SZZR8 : ZR8.size = 9 := by rw [hZR8.out]; rfl
  obtain ⟨bb9, hbb9⟩ : ∃ zz9, Hid (zz9 = onT (x, y)) := ⟨_, Lib.hid rfl⟩
  obtain ⟨NN13, hNN13⟩ : ∃ zz9, Hid (zz9 = num ((baseN).1)) := ⟨_, Lib.hid rfl⟩
  have INN13 : IsNum NN13 := by rw [hNN13.out]; exact isNum _
  obtain ⟨NN14, hNN14⟩ : ∃ zz9, Hid (zz9 = num ((baseN).2)) := ⟨_, Lib.hid rfl⟩
  have INN14 : IsNum NN14 := by rw [hNN14.out]; exact isNum _
  obtain ⟨PP15, hPP15⟩ : ∃ zz9, Hid (zz9 = NN13 ++ NN14) := ⟨_, Lib.hid rfl⟩
  have IPP15 : IsRw 8 PP15 := by rw [hPP15.out]; exact rw_app (isRw4 INN13) (isRw4 INN14)
  have SPP15_0 : Part PP15 0 NN13 := by rw [hPP15.out]; exact part_left 0 (part_all NN13) NN14
  have SPP15_4 : Part PP15 4 NN14 := by rw [hPP15.out]; exact part_right (NN13) NN14 4 (by simp [INN13.size])
  have HZ26 : ∀ w, (zeroValue 26).run Tryd.prog w = .ok (.agg ZR7) w := by rw [hZR7.out]; exact zeroT26
  have HZ31 : ∀ w, (zeroValue 31).run Tryd.prog w = .ok (.agg ZR8) w := by rw [hZR8.out]; exact zeroT31
  try simp only [← hX.out, ← hY.out, ← hNN1.out, ← hNN2.out, ← hbb4.out, ← hbb9.out, ← hNN13.out, ← hNN14.out] at HC5 HC6 HC10 HC11 HC12 HC16 HC17 ⊢
  try simp only [← hZR8.out] at HC5 HC6 HC10 HC11 HC12 HC16 HC17 ⊢
  try simp only [← hPa.out, ← hPP3.out, ← hZR7.out, ← hPP15.out] at HC5 HC6 HC10 HC11 HC12 HC16 HC17 ⊢
  try simp only [← hSPf.out] at HC5 HC6 HC10 HC11 HC12 HC16 HC17 ⊢
  clear hX hY hPa hNN1 hNN2 hPP3 hbb4 hSPf hZR7 hZR8 hbb9 hNN13 hNN14 hPP15 hx hy hs hq hn hG0 hT0
  go_enter Tryd.func3, Tryd.ntmps3
  have HS : Hid (Kt w [] w) := Lib.hid (Kt.nil w)
  go_upto_region 0 with fail
  refine wp_region_list ?_
  refine wpList_run rfl _ (exec_box _ 26 (.tmp 0) rfl _ rfl (Pa) rfl) ?_
  simp only [Act.put, sT, sS, sZ]
  have bg3 := HS.out.1.size
  have HS2 := Lib.hid (HS.out.new Pa 26)
  clear HS
  generalize w.alloc (.cells Pa 26) = w1 at *
  refine wpList_run rfl (.bool false) (exec_assign (.const (.bool false)) rfl _ rfl _) ?_
  simp only [Act.put, sT, sS, sZ]
  refine wpList_nil ?_
  go_upto_region 1 with fail
  refine wp_region_list ?_
  refine wpList_run rfl (.string s) (exec_move (.tmp 1) rfl _ rfl _) ?_
  simp only [Act.put, sT, sS, sZ]
  refine wpList_run rfl (.int .i64 (n : Int)) (exec_len9 (.tmp 8) rfl s n hlen.out rfl _) ?_
  simp only [Act.put, sT, sS, sZ]
  refine wpList_run rfl (.bool false) (exec_gtr60 (.tmp 9) rfl rfl n false hgb.out rfl _) ?_
  simp only [Act.put, sT, sS, sZ]
  refine wpList_nil ?_
  go_upto_region 3 with fail
  refine wp_region_list ?_
  refine wpList_run rfl (.string s) (exec_move (.tmp 1) rfl _ rfl _) ?_
  simp only [Act.put, sT, sS, sZ]
  refine wpList_callF rfl 11 #[.tmp 13] #[9] rfl #[.string s] en11 (HC5.out _ (HT.out.below HS2.out.1) (HG.out.below HS2.out.1)) ?_
  rintro v w4 ⟨he, hb⟩
  cases he
  have HS5 := Lib.hid (HS2.out.below hb)
  clear hb HS2
  simp only [Act.put, sT, sS, sZ]
  refine wpList_run rfl (.tuple #[.agg PP3, .bool bb4]) (exec_move (.tmp 14) rfl _ rfl _) ?_
  simp only [Act.put, sT, sS, sZ]
  refine wpList_run rfl (.agg PP3) (exec_extract (.tmp 12) 0 rfl _ _ rfl rfl _) ?_
  simp only [Act.put, sT, sS, sZ]
  refine wpList_run rfl (.bool bb4) (exec_extract (.tmp 12) 1 rfl _ _ rfl rfl _) ?_
  simp only [Act.put, sT, sS, sZ]
  refine wpList_run rfl _ (exec_alloc_agg _ 26 rfl _ (HZ26 _)) ?_
  simp only [Act.put, sT, sS, sZ]
  have lg8_0 := HS5.out.lt (w.heap.size) Pa 26 (by simp)
  have bg8 := HS5.out.1.size
  have HS7 := Lib.hid (HS5.out.new ZR7 26)
  clear HS5
  generalize w4.alloc (.cells ZR7 26) = w6 at *
  generalize w4.heap.size = g8 at *
  refine wpList_run0 rfl (exec_storeT26 _ (.tmp 5) (.tmp 15) rfl (g8) rfl PP3 IPP3 rfl ZR7 26 (HS7.out.get (g8) ZR7 26 (by simp)) SZZR7) ?_
  simp only [Act.put, sT, sS, sZ]
  have HS10 : Hid (Kt w [(g8, PP3, 26), (w.heap.size, Pa, 26)] (w6.setRow (g8) PP3)) := Lib.hid (HS7.out.set (g8) PP3 ZR7 26 (HS7.out.get (g8) ZR7 26 (by simp)) (by omega) (fun p hp => by simp at hp; rcases hp with rfl | rfl <;> first | exact .inl rfl | exact .inr ⟨by simp, by simp only; omega⟩))
  clear HS7
  generalize w6.setRow (g8) PP3 = w9 at *
  refine wpList_run rfl (.bool bb4) (exec_assign (.tmp 16) rfl _ rfl _) ?_
  simp only [Act.put, sT, sS, sZ]
  refine wpList_nil ?_
  go_upto_region 4 with fail
  refine wp_region_list ?_
  refine wpList_run rfl (.string s) (exec_move (.tmp 1) rfl _ rfl _) ?_
  simp only [Act.put, sT, sS, sZ]
  refine wpList_callF rfl 12 #[.tmp 17] #[9] rfl #[.string s] en12 (HC6.out _) ?_
  rintro v w11 ⟨he, hb⟩
  cases he
  have HS12 := Lib.hid (HS10.out.below hb)
  clear hb HS10
  simp only [Act.put, sT, sS, sZ]
  refine wpList_run rfl _ (exec_alloc_agg _ 31 rfl _ (HZ31 _)) ?_
  simp only [Act.put, sT, sS, sZ]
  have lg15_0 := HS12.out.lt (g8) PP3 26 (by simp)
  have lg15_1 := HS12.out.lt (w.heap.size) Pa 26 (by simp)
  have bg15 := HS12.out.1.size
  have HS14 := Lib.hid (HS12.out.new ZR8 31)
  clear HS12
  generalize w11.alloc (.cells ZR8 31) = w13 at *
  generalize w11.heap.size = g15 at *
  refine wpList_run0 rfl (exec_storeT31 _ (.tmp 7) (.tmp 18) rfl (g15) rfl SPf ISPf rfl ZR8 31 (HS14.out.get (g15) ZR8 31 (by simp)) SZZR8) ?_
  simp only [Act.put, sT, sS, sZ]
  have HS17 : Hid (Kt w [(g15, SPf, 31), (g8, PP3, 26), (w.heap.size, Pa, 26)] (w13.setRow (g15) SPf)) := Lib.hid (HS14.out.set (g15) SPf ZR8 31 (HS14.out.get (g15) ZR8 31 (by simp)) (by omega) (fun p hp => by simp at hp; rcases hp with rfl | rfl | rfl <;> first | exact .inl rfl | exact .inr ⟨by simp, by simp only; omega⟩))
  clear HS14
  generalize w13.setRow (g15) SPf = w16 at *
  refine wpList_nil ?_
  go_upto_region 5 with fail
  refine wp_cut (fun a' W' => a' = { tmps := #[.agg Pa, .string s, .pointer (some ⟨w.heap.size, 0, none⟩), undef, .bool true, .pointer (some ⟨g8, 0, none⟩), .bool bb4, .pointer (some ⟨g15, 0, none⟩), .string s, .int .i64 (n : Int), .bool false, undef, .tuple #[.agg PP3, .bool bb4], .string s, .tuple #[.agg PP3, .bool bb4], .agg PP3, .bool bb4, .string s, .agg SPf, .agg Pa, .bool bb9, .agg Pa, .bool bb9, .bool true, .bool true, .agg PP3, .pointer (some ⟨g15, 0, none⟩), .agg PP3, .bool true, .bool true, .bool true, .bool bb4, .pointer (some ⟨g15, 8, none⟩), .bool bb4, .bool true, .bool true, .bool true, .agg PP15, .agg PP15, .bool true, .bool true, .bool true, .bool true, .bool true], defers := [] } ∧ Kt w [] W') ?_ ?_
  · refine wp_region_any (by kernel_rfl) ?_
    change wpAny _ _ _ _ _ _ _ (World.drew _)
    have HDq18x1 := HS17.out.drew
    clear HS17
    generalize w16.drew = wdq18x2 at *
    refine any_of_F (S := Kt w [(g15, SPf, 31), (g8, PP3, 26), (w.heap.size, Pa, 26)]) (f := 1000) _ _ _ _ ?_
    refine tkG 0 (some 19) (.load 26 (.tmp 2)) none (.agg Pa) (fun o ho w2 hw => exec_load_of _ 26 (.tmp 2) ho ⟨w.heap.size, 0, none⟩ rfl _ (loadT26 IPa (hw.get (w.heap.size) Pa 26 (by simp)))) HDq18x1 ?_
    simp only [Act.put, sT, sS, sZ]
    refine tkG 2 (some 21) (.load 26 (.tmp 2)) none (.agg Pa) (fun o ho w2 hw => exec_load_of _ 26 (.tmp 2) ho ⟨w.heap.size, 0, none⟩ rfl _ (loadT26 IPa (hw.get (w.heap.size) Pa 26 (by simp)))) HDq18x1 ?_
    simp only [Act.put, sT, sS, sZ]
    refine rdy [1] (rcl (some 20) 13 #[.tmp 19] #[26] #[.agg Pa] en13 _ (HC10.out _ (HG.out.below HDq18x1.1)) ?_ ReadyF.nil)
    rintro v wq18x11 ⟨he, hb⟩
    cases he
    have Hq18x12 := HDq18x1.below hb
    clear hb
    refine ⟨Hq18x12, ?_⟩
    simp only [Act.put, sT, sS, sZ]
    refine rdy [3] (rcl (some 22) 14 #[.tmp 21] #[26] #[.agg Pa] en14 _ (HC11.out _) ?_ ReadyF.nil)
    rintro v wq18x13 ⟨he, hb⟩
    cases he
    have Hq18x14 := Hq18x12.below hb
    clear hb
    refine ⟨Hq18x14, ?_⟩
    simp only [Act.put, sT, sS, sZ]
    refine tkG 4 (some 23) (.binOp .eql 4 (.tmp 20) (.tmp 22) 4) none (.bool true) (fun o ho w2 hw => exec_eqB (.tmp 20) (.tmp 22) ho bb9 rfl rfl w2) Hq18x14 ?_
    simp only [Act.put, sT, sS, sZ]
    refine tkG 5 (some 24) (.move (.tmp 23)) none (.bool true) (fun o ho w2 hw => exec_move (.tmp 23) ho _ rfl w2) Hq18x14 ?_
    simp only [Act.put, sT, sS, sZ]
    refine tkG 6 (some 25) (.load 26 (.tmp 5)) (some (5, true)) (.agg PP3) (fun o ho w2 hw => exec_load_of _ 26 (.tmp 5) ho ⟨g8, 0, none⟩ rfl _ (loadT26 IPP3 (hw.get (g8) PP3 26 (by simp)))) Hq18x14 ?_
    simp only [Act.put, sT, sS, sZ]
    refine tkG 7 (some 26) (.fieldAddr 31 (.tmp 7) 0) (some (5, true)) (.pointer (some ⟨g15, 0, none⟩)) (fun o ho w2 hw => exec_field 31 (.tmp 7) 0 ho _ _ rfl w2 (fa31_0 (g15) w2)) Hq18x14 ?_
    simp only [Act.put, sT, sS, sZ]
    refine tkG 8 (some 27) (.load 26 (.tmp 26)) (some (5, true)) (.agg PP3) (fun o ho w2 hw => exec_load_of _ 26 (.tmp 26) ho ⟨g15, 0, none⟩ rfl _ (load26_part (hw.get (g15) SPf 31 (by simp)) IPP3 0 SSPf_0)) Hq18x14 ?_
    simp only [Act.put, sT, sS, sZ]
    refine tkG 9 (some 28) (.binOp .eql 26 (.tmp 25) (.tmp 27) 26) (some (5, true)) (.bool true) (fun o ho w2 hw => exec_eqP (.tmp 25) (.tmp 27) ho PP3 IPP3 rfl rfl w2) Hq18x14 ?_
    simp only [Act.put, sT, sS, sZ]
    refine tkG 10 (some 29) (.pick (.tmp 24) (.tmp 28) (.const (.bool false))) none (.bool true) (fun o ho w2 hw => exec_pickt (.tmp 24) (.tmp 28) (.const (.bool false)) ho rfl _ rfl w2) Hq18x14 ?_
    simp only [Act.put, sT, sS, sZ]
    refine tkG 11 (some 30) (.move (.tmp 29)) none (.bool true) (fun o ho w2 hw => exec_move (.tmp 29) ho _ rfl w2) Hq18x14 ?_
    simp only [Act.put, sT, sS, sZ]
    refine tkG 12 (some 31) (.move (.tmp 6)) (some (11, true)) (.bool bb4) (fun o ho w2 hw => exec_move (.tmp 6) ho _ rfl w2) Hq18x14 ?_
    simp only [Act.put, sT, sS, sZ]
    refine tkG 13 (some 32) (.fieldAddr 31 (.tmp 7) 1) (some (11, true)) (.pointer (some ⟨g15, 8, none⟩)) (fun o ho w2 hw => exec_field 31 (.tmp 7) 1 ho _ _ rfl w2 (fa31_1 (g15) w2)) Hq18x14 ?_
    simp only [Act.put, sT, sS, sZ]
    refine tkG 14 (some 33) (.load 4 (.tmp 32)) (some (11, true)) (.bool bb4) (fun o ho w2 hw => exec_load_one _ 4 (.tmp 32) ho ⟨g15, 8, none⟩ rfl _ (cell_part (hw.get (g15) SPf 31 (by simp)) 8 _ CSPf_8) _ Tryd.underlying4 rfl) Hq18x14 ?_
    simp only [Act.put, sT, sS, sZ]
    refine tkG 15 (some 34) (.binOp .eql 4 (.tmp 31) (.tmp 33) 4) (some (11, true)) (.bool true) (fun o ho w2 hw => exec_eqB (.tmp 31) (.tmp 33) ho bb4 rfl rfl w2) Hq18x14 ?_
    simp only [Act.put, sT, sS, sZ]
    refine tkG 16 (some 35) (.pick (.tmp 30) (.tmp 34) (.const (.bool false))) none (.bool true) (fun o ho w2 hw => exec_pickt (.tmp 30) (.tmp 34) (.const (.bool false)) ho rfl _ rfl w2) Hq18x14 ?_
    simp only [Act.put, sT, sS, sZ]
    refine tkG 17 (some 36) (.move (.tmp 35)) none (.bool true) (fun o ho w2 hw => exec_move (.tmp 35) ho _ rfl w2) Hq18x14 ?_
    simp only [Act.put, sT, sS, sZ]
    refine rdy [18] (rclG (some 37) 15 #[] #[] (some (17, true)) #[] en15 _ (HC12.out _ (HG.out.below Hq18x14.1)) ?_ ReadyF.nil)
    rintro v wq18x15 ⟨he, hb⟩
    cases he
    have Hq18x16 := Hq18x14.below hb
    clear hb
    refine ⟨Hq18x16, ?_⟩
    simp only [Act.put, sT, sS, sZ]
    refine rdy [19] (rclG (some 38) 16 #[] #[] (some (17, true)) #[] en16 _ (HC16.out _) ?_ ReadyF.nil)
    rintro v wq18x17 ⟨he, hb⟩
    cases he
    have Hq18x18 := Hq18x16.below hb
    clear hb
    refine ⟨Hq18x18, ?_⟩
    simp only [Act.put, sT, sS, sZ]
    refine tkG 20 (some 39) (.binOp .eql 26 (.tmp 37) (.tmp 38) 26) (some (17, true)) (.bool true) (fun o ho w2 hw => exec_eqP (.tmp 37) (.tmp 38) ho PP15 IPP15 rfl rfl w2) Hq18x18 ?_
    simp only [Act.put, sT, sS, sZ]
    refine tkG 21 (some 40) (.pick (.tmp 36) (.tmp 39) (.const (.bool false))) none (.bool true) (fun o ho w2 hw => exec_pickt (.tmp 36) (.tmp 39) (.const (.bool false)) ho rfl _ rfl w2) Hq18x18 ?_
    simp only [Act.put, sT, sS, sZ]
    refine tkG 22 (some 41) (.move (.tmp 40)) none (.bool true) (fun o ho w2 hw => exec_move (.tmp 40) ho _ rfl w2) Hq18x18 ?_
    simp only [Act.put, sT, sS, sZ]
    refine rdy [23] (rclG (some 42) 10 #[] #[] (some (22, true)) #[] en10 _ (HC17.out _ (HG.out.below Hq18x18.1)) ?_ ReadyF.nil)
    rintro v wq18x19 ⟨he, hb⟩
    cases he
    have Hq18x20 := Hq18x18.below hb
    clear hb
    refine ⟨Hq18x20, ?_⟩
    simp only [Act.put, sT, sS, sZ]
    refine tkG 24 (some 43) (.pick (.tmp 41) (.tmp 42) (.const (.bool false))) none (.bool true) (fun o ho w2 hw => exec_pickt (.tmp 41) (.tmp 42) (.const (.bool false)) ho rfl _ rfl w2) Hq18x20 ?_
    simp only [Act.put, sT, sS, sZ]
    refine tkG 25 (some 4) (.assign (.tmp 43)) none (.bool true) (fun o ho w2 hw => exec_assign (.tmp 43) ho _ rfl w2) Hq18x20 ?_
    simp only [Act.put, sT, sS, sZ]
    refine AnyF.done (by kernel_rfl) ?_ _
    refine nrm_intro ⟨rfl, Hq18x20.sub (fun p hp => by cases hp)⟩
  rintro a' w19 ⟨rfl, hk⟩
  have HS20 := Lib.hid hk
  clear hk HS17
  go_wp2
  go_ret
  exact ⟨rfl, HS20.out.1⟩
theorem all_any (x y : Nat) (s : ByteArray) (hx : x < 115792089237316195423570985008687907853269984665640564039457584007913129639936) (hy : y < 115792089237316195423570985008687907853269984665640564039457584007913129639936) (hs : s.size ≤ maxLen) (w : World) (hT0 : GlobT w) (hG0 : Glob w) :
    Calls Tryd.prog 3 #[.agg (num x ++ num y), .string s] w fun e w' => e = .returned (.bool true) ∧ Below w.heap.size w w' := by
  by_cases h : 60 < s.size
  · exact all_long x y s hx hy hs h w hT0 hG0
  · exact all_short x y s hx hy hs h w hT0 hG0
end Go.Proofs.YtgbliacncahooaaDoor
