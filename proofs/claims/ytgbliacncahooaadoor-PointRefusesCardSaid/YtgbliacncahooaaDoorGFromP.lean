/- From of package point: of other texts. No condition but what each names, and that the numbers stand in memory. -/
import Derived.Test.YtgbliacncahooaaDoorGFromD
namespace Go.Proofs.YtgbliacncahooaaDoor
open Go.RowKit Go.Shelf
set_option linter.unusedVariables false
set_option linter.unusedSimpArgs false
set_option maxRecDepth 100000 in
set_option maxHeartbeats 2000000 in
theorem from_a (s : ByteArray) (h : s.size ≠ 32) (w : World) :
    Calls Tryd.prog 11 #[.string s] w fun e w' => e = .returned (.tuple #[.agg (num 0 ++ num 0), .bool false]) ∧ Below w.heap.size w w' := by
  obtain ⟨n, hn⟩ : ∃ n, n = s.size := ⟨_, rfl⟩
  have hlen : Hid (s.size = n) := Lib.hid hn.symm
  have hnb : Hid (true = !((n : Int) == 32)) := Lib.hid (by simp; omega)
  clear hn h
  obtain ⟨ZR1, hZR1⟩ : ∃ zz9, Hid (zz9 = (rowOf .u64 8 (fun _ => 0)).toArray) := ⟨_, Lib.hid rfl⟩
  have SZZR1 : ZR1.size = 8 := by rw [hZR1.out]; rfl
  obtain ⟨NN3, hNN3⟩ : ∃ zz9, Hid (zz9 = num (0)) := ⟨_, Lib.hid rfl⟩
  have INN3 : IsNum NN3 := by rw [hNN3.out]; exact isNum _
  obtain ⟨PP4, hPP4⟩ : ∃ zz9, Hid (zz9 = NN3 ++ NN3) := ⟨_, Lib.hid rfl⟩
  have IPP4 : IsRw 8 PP4 := by rw [hPP4.out]; exact rw_app (isRw4 INN3) (isRw4 INN3)
  have SPP4_0 : Part PP4 0 NN3 := by rw [hPP4.out]; exact part_left 0 (part_all NN3) NN3
  have SPP4_4 : Part PP4 4 NN3 := by rw [hPP4.out]; exact part_right (NN3) NN3 4 (by simp [INN3.size])
  have HZ26 : ∀ w, (zeroValue 26).run Tryd.prog w = .ok (.agg ZR1) w := by rw [hZR1.out]; exact zeroT26
  have BF2 : ∀ w, (Instr.build 26 #[]).run Tryd.prog w = .ok (.agg PP4) w := by have q := bp_none; rw [← hNN3.out] at q; rw [hPP4.out]; exact q
  try simp only [← hNN3.out] at  ⊢
  try simp only [← hZR1.out, ← hPP4.out] at  ⊢
  clear hZR1 hNN3 hPP4 
  go_enter Tryd.func11, Tryd.ntmps11
  have HS : Hid (Kt w [] w) := Lib.hid (Kt.nil w)
  go_upto_region 0 with fail
  refine wp_region_list ?_
  refine wpList_run rfl _ (exec_alloc_agg _ 26 rfl _ (HZ26 _)) ?_
  simp only [Act.put, sT, sS, sZ]
  have bg3 := HS.out.1.size
  have HS2 := Lib.hid (HS.out.new ZR1 26)
  clear HS
  generalize w.alloc (.cells ZR1 26) = w1 at *
  refine wpList_run rfl (.bool false) (exec_assign (.const (.bool false)) rfl _ rfl _) ?_
  simp only [Act.put, sT, sS, sZ]
  refine wpList_nil ?_
  go_upto_region 1 with fail
  refine wp_region_list ?_
  refine wpList_run rfl (.string s) (exec_move (.tmp 0) rfl _ rfl _) ?_
  simp only [Act.put, sT, sS, sZ]
  refine wpList_run rfl (.int .i64 (n : Int)) (exec_len9 (.tmp 10) rfl s n hlen.out rfl _) ?_
  simp only [Act.put, sT, sS, sZ]
  refine wpList_run rfl (.bool true) (exec_neq32 (.tmp 11) rfl rfl n true hnb.out rfl _) ?_
  simp only [Act.put, sT, sS, sZ]
  refine wpList_nil ?_
  go_upto_region 2 with fail
  refine wp_region_list ?_
  refine wpList_run rfl (.agg PP4) (exec_buildN _ 26 #[] rfl #[] (by simp [Act.eval]) _ (BF2 _)) ?_
  simp only [Act.put, sT, sS, sZ]
  refine wpList_run0 rfl (exec_storeT26 _ (.tmp 2) (.tmp 13) rfl (w.heap.size) rfl PP4 IPP4 rfl ZR1 26 (HS2.out.get (w.heap.size) ZR1 26 (by simp)) SZZR1) ?_
  simp only [Act.put, sT, sS, sZ]
  have HS5 : Hid (Kt w [(w.heap.size, PP4, 26)] (w1.setRow (w.heap.size) PP4)) := Lib.hid (HS2.out.set (w.heap.size) PP4 ZR1 26 (HS2.out.get (w.heap.size) ZR1 26 (by simp)) (by omega) (fun p hp => by simp at hp; subst hp; exact .inl rfl))
  clear HS2
  generalize w1.setRow (w.heap.size) PP4 = w4 at *
  refine wpList_run rfl (.bool false) (exec_assign (.const (.bool false)) rfl _ rfl _) ?_
  simp only [Act.put, sT, sS, sZ]
  refine wpList_nil ?_
  go_wp2
  exact bodyPost_ret (results_two rfl _ _ _ ⟨w.heap.size, 0, none⟩ rfl _ (loadT26 IPP4 (HS5.out.get (w.heap.size) PP4 26 (by simp)))) rfl ⟨rfl, HS5.out.1⟩
set_option maxRecDepth 100000 in
set_option maxHeartbeats 2000000 in
theorem from_b0 (m : List UInt8) (b c : UInt8) (hm : m.length = 31) (hcb : c.toNat = b.toNat % 128) (han1 : bits .andNot .u8 (b.toNat : Int) 128 = (c.toNat : Int)) (y : Nat) (hy : y = leVal m + c.toNat * 256 ^ 31) (hyp : ¬ y < pp) (hq : b.toNat < 128) (w : World) (hT0 : GlobT w) (hG0 : Glob w) :
    Calls Tryd.prog 11 #[.string ⟨(m ++ [b]).toArray⟩] w fun e w' => e = .returned (.tuple #[.agg (num 0 ++ num 0), .bool false]) ∧ Below w.heap.size w w' := by
  have HG := Lib.hid hG0
  have HT := Lib.hid hT0
  have han := Lib.hid han1
  have HF := Lib.hid (from_any ⟨(m ++ [c]).toArray⟩ (by show (m ++ [c]).length ≤ _; rw [len31 c hm]; decide))
  rw [fromF_parts m c hm, ← hy, if_neg hyp] at HF
  have hlen : Hid ((⟨(m ++ [b]).toArray⟩ : ByteArray).size = 32) := Lib.hid (len31 b hm)
  have hnb : Hid (false = !(((32 : Nat) : Int) == 32)) := Lib.hid (by decide)
  have hgb : Hid (decide ((128 : Int) ≤ (b.toNat : Int)) = false) := Lib.hid (by simp; omega)
  have HC5 : Hid (∀ w, GlobT w → Glob w → _) := Lib.hid (beside_any (0) (by decide))
  obtain ⟨NN1, hNN1⟩ : ∃ zz9, Hid (zz9 = num (0)) := ⟨_, Lib.hid rfl⟩
  have INN1 : IsNum NN1 := by rw [hNN1.out]; exact isNum _
  obtain ⟨ZR2, hZR2⟩ : ∃ zz9, Hid (zz9 = (rowOf .u64 8 (fun _ => 0)).toArray) := ⟨_, Lib.hid rfl⟩
  have SZZR2 : ZR2.size = 8 := by rw [hZR2.out]; rfl
  obtain ⟨NN3, hNN3⟩ : ∃ zz9, Hid (zz9 = num ((rootF (fromU (0))).1)) := ⟨_, Lib.hid rfl⟩
  have INN3 : IsNum NN3 := by rw [hNN3.out]; exact isNum _
  obtain ⟨bb4, hbb4⟩ : ∃ zz9, Hid (zz9 = (rootF (fromU (0))).2) := ⟨_, Lib.hid rfl⟩
  obtain ⟨PP7, hPP7⟩ : ∃ zz9, Hid (zz9 = NN3 ++ NN1) := ⟨_, Lib.hid rfl⟩
  have IPP7 : IsRw 8 PP7 := by rw [hPP7.out]; exact rw_app (isRw4 INN3) (isRw4 INN1)
  have SPP7_0 : Part PP7 0 NN3 := by rw [hPP7.out]; exact part_left 0 (part_all NN3) NN1
  have SPP7_4 : Part PP7 4 NN1 := by rw [hPP7.out]; exact part_right (NN3) NN1 4 (by simp [INN3.size])
  obtain ⟨PP9, hPP9⟩ : ∃ zz9, Hid (zz9 = NN1 ++ NN1) := ⟨_, Lib.hid rfl⟩
  have IPP9 : IsRw 8 PP9 := by rw [hPP9.out]; exact rw_app (isRw4 INN1) (isRw4 INN1)
  have SPP9_0 : Part PP9 0 NN1 := by rw [hPP9.out]; exact part_left 0 (part_all NN1) NN1
  have SPP9_4 : Part PP9 4 NN1 := by rw [hPP9.out]; exact part_right (NN1) NN1 4 (by simp [INN1.size])
  have HZ26 : ∀ w, (zeroValue 26).run Tryd.prog w = .ok (.agg ZR2) w := by rw [hZR2.out]; exact zeroT26
  have HZ24 : ∀ w, (zeroValue 24).run Tryd.prog w = .ok (.agg NN1) w := by rw [hNN1.out]; exact zero_run
  have SZNN1 := INN1.size
  have BF6 : ∀ w, (Instr.build 26 #[(0, .agg NN3), (1, .agg NN1)]).run Tryd.prog w = .ok (.agg PP7) w := by rw [hPP7.out]; exact bp01 INN3 INN1
  have BF8 : ∀ w, (Instr.build 26 #[]).run Tryd.prog w = .ok (.agg PP9) w := by have q := bp_none; rw [← hNN1.out] at q; rw [hPP9.out]; exact q
  try simp only [← hNN1.out, ← hNN3.out, ← hbb4.out] at HC5 HF ⊢
  try simp only [← hZR2.out, ← hPP7.out, ← hPP9.out] at HC5 HF ⊢
  clear hNN1 hZR2 hNN3 hbb4 hPP7 hPP9 hcb han1 hy hyp hG0 hT0 hq
  go_enter Tryd.func11, Tryd.ntmps11
  have HS : Hid (Kt w [] w) := Lib.hid (Kt.nil w)
  go_upto_region 0 with fail
  refine wp_region_list ?_
  refine wpList_run rfl _ (exec_alloc_agg _ 26 rfl _ (HZ26 _)) ?_
  simp only [Act.put, sT, sS, sZ]
  have bg3 := HS.out.1.size
  have HS2 := Lib.hid (HS.out.new ZR2 26)
  clear HS
  generalize w.alloc (.cells ZR2 26) = w1 at *
  refine wpList_run rfl (.bool false) (exec_assign (.const (.bool false)) rfl _ rfl _) ?_
  simp only [Act.put, sT, sS, sZ]
  refine wpList_nil ?_
  go_upto_region 1 with fail
  refine wp_region_list ?_
  refine wpList_run rfl (.string ⟨(m ++ [b]).toArray⟩) (exec_move (.tmp 0) rfl _ rfl _) ?_
  simp only [Act.put, sT, sS, sZ]
  refine wpList_run rfl (.int .i64 (32 : Int)) (exec_len9 (.tmp 10) rfl ⟨(m ++ [b]).toArray⟩ 32 hlen.out rfl _) ?_
  simp only [Act.put, sT, sS, sZ]
  refine wpList_run rfl (.bool false) (exec_neq32 (.tmp 11) rfl rfl 32 false hnb.out rfl _) ?_
  simp only [Act.put, sT, sS, sZ]
  refine wpList_nil ?_
  go_upto_region 3 with fail
  refine wp_region_list ?_
  refine wpList_run rfl (.string ⟨(m ++ [b]).toArray⟩) (exec_move (.tmp 0) rfl _ rfl _) ?_
  simp only [Act.put, sT, sS, sZ]
  obtain ⟨cap8, w4, hcv, hbf, hbl, hlt⟩ := conv_buf w1 (m ++ [b]) (len31 b hm)
  refine wpList_run rfl _ (exec_convG 9 44 (.tmp 14) rfl _ rfl _ _ _ hcv) ?_
  simp only [Act.put, sT, sS, sZ]
  have lgb6_0 := HS2.out.lt (w.heap.size) ZR2 26 (by simp)
  have bgb6 := HS2.out.1.size
  have HS5 := Lib.hid (HS2.out.below hbl)
  have HB7 := Lib.hid hbf
  clear HS2 hcv hbf hbl
  generalize w1.heap.size = gb6 at *
  refine wpList_run rfl (.slice (some ⟨gb6, 0, none⟩) 32 cap8) (exec_assign (.tmp 15) rfl _ rfl _) ?_
  simp only [Act.put, sT, sS, sZ]
  refine wpList_nil ?_
  go_upto_region 4 with fail
  refine wp_region_list ?_
  refine wpList_run rfl (.slice (some ⟨gb6, 0, none⟩) 32 cap8) (exec_move (.tmp 4) rfl _ rfl _) ?_
  simp only [Act.put, sT, sS, sZ]
  refine wpList_run rfl (.pointer (some ⟨gb6, 31, none⟩)) (exec_index44 (.tmp 16) rfl rfl (gb6) cap8 rfl _) ?_
  simp only [Act.put, sT, sS, sZ]
  refine wpList_run rfl (.int .u8 (b.toNat : Int)) (exec_load_one _ 5 (.tmp 17) rfl ⟨gb6, 31, none⟩ rfl _ (HB7.out.cell31 hm) _ Tryd.underlying5 rfl) ?_
  simp only [Act.put, sT, sS, sZ]
  refine wpList_run rfl (.int .u8 (c.toNat : Int)) (exec_andNot128 (.tmp 18) rfl rfl b c han.out rfl _) ?_
  simp only [Act.put, sT, sS, sZ]
  refine wpList_run rfl (.pointer (some ⟨gb6, 31, none⟩)) (exec_index44 (.tmp 16) rfl rfl (gb6) cap8 rfl _) ?_
  simp only [Act.put, sT, sS, sZ]
  refine wpList_run0 rfl (exec_store31 _ (.tmp 20) (.tmp 19) rfl (gb6) rfl c rfl HB7.out hm) ?_
  simp only [Act.put, sT, sS, sZ]
  have HS10 := Lib.hid (HS5.out.cellOther (gb6) 31 (.int .u8 (c.toNat : Int)) (by omega) (fun p hp => by simp at hp; subst hp; simp only; omega))
  have HB11 := Lib.hid (HB7.out.set hm c)
  clear HS5 HB7
  generalize w4.setCell ⟨gb6, 31, none⟩ (.int .u8 (c.toNat : Int)) = w9 at *
  refine wpList_nil ?_
  go_upto_region 5 with fail
  refine wp_region_list ?_
  refine wpList_run rfl (.slice (some ⟨gb6, 0, none⟩) 32 cap8) (exec_move (.tmp 4) rfl _ rfl _) ?_
  simp only [Act.put, sT, sS, sZ]
  refine wpList_run rfl (.string ⟨(m ++ [c]).toArray⟩) (exec_convG 44 9 (.tmp 22) rfl _ rfl _ _ _ (HB11.out.str (len31 c hm))) ?_
  simp only [Act.put, sT, sS, sZ]
  refine wpList_callF rfl 28 #[.tmp 23] #[9] rfl #[.string ⟨(m ++ [c]).toArray⟩] en28 (HF.out _) ?_
  rintro v w12 ⟨he, hb⟩
  cases he
  have HS13 := Lib.hid (HS10.out.below hb)
  clear hb HS10
  simp only [Act.put, sT, sS, sZ]
  refine wpList_run rfl (.tuple #[.agg NN1, .bool false]) (exec_move (.tmp 24) rfl _ rfl _) ?_
  simp only [Act.put, sT, sS, sZ]
  refine wpList_run rfl (.agg NN1) (exec_extract (.tmp 21) 0 rfl _ _ rfl rfl _) ?_
  simp only [Act.put, sT, sS, sZ]
  refine wpList_run rfl (.bool false) (exec_extract (.tmp 21) 1 rfl _ _ rfl rfl _) ?_
  simp only [Act.put, sT, sS, sZ]
  refine wpList_run rfl _ (exec_alloc_agg _ 24 rfl _ (HZ24 _)) ?_
  simp only [Act.put, sT, sS, sZ]
  have lg16_0 := HS13.out.lt (w.heap.size) ZR2 26 (by simp)
  have bg16 := HS13.out.1.size
  have HS15 := Lib.hid (HS13.out.new NN1 24)
  clear HS13
  generalize w12.alloc (.cells NN1 24) = w14 at *
  generalize w12.heap.size = g16 at *
  refine wpList_run0 rfl (exec_store24 _ (.tmp 5) (.tmp 25) rfl (g16) rfl NN1 INN1 rfl NN1 24 (HS15.out.get (g16) NN1 24 (by simp)) SZNN1) ?_
  simp only [Act.put, sT, sS, sZ]
  have HS18 : Hid (Kt w [(g16, NN1, 24), (w.heap.size, ZR2, 26)] (w14.setRow (g16) NN1)) := Lib.hid (HS15.out.set (g16) NN1 NN1 24 (HS15.out.get (g16) NN1 24 (by simp)) (by omega) (fun p hp => by simp at hp; rcases hp with rfl | rfl <;> first | exact .inl rfl | exact .inr ⟨by simp, by simp only; omega⟩))
  clear HS15
  generalize w14.setRow (g16) NN1 = w17 at *
  refine wpList_run rfl (.bool false) (exec_assign (.tmp 26) rfl _ rfl _) ?_
  simp only [Act.put, sT, sS, sZ]
  refine wpList_nil ?_
  go_upto_region 6 with fail
  refine wp_region_list ?_
  refine wpList_run rfl (.agg NN1) (exec_load_of _ 24 (.tmp 5) rfl ⟨g16, 0, none⟩ rfl _ (loadA24 INN1 (HS18.out.get (g16) NN1 24 (by simp)))) ?_
  simp only [Act.put, sT, sS, sZ]
  refine wpList_callF rfl 29 #[.tmp 28] #[24] rfl #[.agg NN1] en29 (HC5.out _ (HT.out.below HS18.out.1) (HG.out.below HS18.out.1)) ?_
  rintro v w19 ⟨he, hb⟩
  cases he
  have HS20 := Lib.hid (HS18.out.below hb)
  clear hb HS18
  simp only [Act.put, sT, sS, sZ]
  refine wpList_run rfl (.tuple #[.agg NN3, .bool bb4]) (exec_move (.tmp 29) rfl _ rfl _) ?_
  simp only [Act.put, sT, sS, sZ]
  refine wpList_run rfl (.agg NN3) (exec_extract (.tmp 27) 0 rfl _ _ rfl rfl _) ?_
  simp only [Act.put, sT, sS, sZ]
  refine wpList_run rfl (.bool bb4) (exec_extract (.tmp 27) 1 rfl _ _ rfl rfl _) ?_
  simp only [Act.put, sT, sS, sZ]
  refine wpList_run rfl _ (exec_alloc_agg _ 24 rfl _ (HZ24 _)) ?_
  simp only [Act.put, sT, sS, sZ]
  have lg23_0 := HS20.out.lt (g16) NN1 24 (by simp)
  have lg23_1 := HS20.out.lt (w.heap.size) ZR2 26 (by simp)
  have bg23 := HS20.out.1.size
  have HS22 := Lib.hid (HS20.out.new NN1 24)
  clear HS20
  generalize w19.alloc (.cells NN1 24) = w21 at *
  generalize w19.heap.size = g23 at *
  refine wpList_run0 rfl (exec_store24 _ (.tmp 7) (.tmp 30) rfl (g23) rfl NN3 INN3 rfl NN1 24 (HS22.out.get (g23) NN1 24 (by simp)) SZNN1) ?_
  simp only [Act.put, sT, sS, sZ]
  have HS25 : Hid (Kt w [(g23, NN3, 24), (g16, NN1, 24), (w.heap.size, ZR2, 26)] (w21.setRow (g23) NN3)) := Lib.hid (HS22.out.set (g23) NN3 NN1 24 (HS22.out.get (g23) NN1 24 (by simp)) (by omega) (fun p hp => by simp at hp; rcases hp with rfl | rfl | rfl <;> first | exact .inl rfl | exact .inr ⟨by simp, by simp only; omega⟩))
  clear HS22
  generalize w21.setRow (g23) NN3 = w24 at *
  refine wpList_run rfl (.bool bb4) (exec_assign (.tmp 31) rfl _ rfl _) ?_
  simp only [Act.put, sT, sS, sZ]
  refine wpList_nil ?_
  go_upto_region 7 with fail
  refine wp_region_list ?_
  refine wpList_run rfl (.string ⟨(m ++ [b]).toArray⟩) (exec_move (.tmp 0) rfl _ rfl _) ?_
  simp only [Act.put, sT, sS, sZ]
  refine wpList_run rfl (.int .u8 (b.toNat : Int)) (exec_index31 (.tmp 32) rfl rfl m b hm rfl _) ?_
  simp only [Act.put, sT, sS, sZ]
  refine wpList_run rfl (.bool false) (exec_geq128 (.tmp 33) rfl rfl b.toNat false hgb.out rfl _) ?_
  simp only [Act.put, sT, sS, sZ]
  refine wpList_nil ?_
  go_upto_region 9 with fail
  refine wp_region_list ?_
  refine wpList_run rfl (.agg NN3) (exec_load_of _ 24 (.tmp 7) rfl ⟨g23, 0, none⟩ rfl _ (loadA24 INN3 (HS25.out.get (g23) NN3 24 (by simp)))) ?_
  simp only [Act.put, sT, sS, sZ]
  refine wpList_run rfl (.agg NN1) (exec_load_of _ 24 (.tmp 5) rfl ⟨g16, 0, none⟩ rfl _ (loadA24 INN1 (HS25.out.get (g16) NN1 24 (by simp)))) ?_
  simp only [Act.put, sT, sS, sZ]
  refine wpList_run rfl (.agg PP7) (exec_buildN _ 26 #[(0, .tmp 38), (1, .tmp 39)] rfl #[(0, .agg NN3), (1, .agg NN1)] (by simp [Act.eval]) _ (BF6 _)) ?_
  simp only [Act.put, sT, sS, sZ]
  refine wpList_run rfl _ (exec_alloc_agg _ 26 rfl _ (HZ26 _)) ?_
  simp only [Act.put, sT, sS, sZ]
  have lg28_0 := HS25.out.lt (g23) NN3 24 (by simp)
  have lg28_1 := HS25.out.lt (g16) NN1 24 (by simp)
  have lg28_2 := HS25.out.lt (w.heap.size) ZR2 26 (by simp)
  have bg28 := HS25.out.1.size
  have HS27 := Lib.hid (HS25.out.new ZR2 26)
  clear HS25
  generalize w24.alloc (.cells ZR2 26) = w26 at *
  generalize w24.heap.size = g28 at *
  refine wpList_run0 rfl (exec_storeT26 _ (.tmp 9) (.tmp 40) rfl (g28) rfl PP7 IPP7 rfl ZR2 26 (HS27.out.get (g28) ZR2 26 (by simp)) SZZR2) ?_
  simp only [Act.put, sT, sS, sZ]
  have HS30 : Hid (Kt w [(g28, PP7, 26), (g23, NN3, 24), (g16, NN1, 24), (w.heap.size, ZR2, 26)] (w26.setRow (g28) PP7)) := Lib.hid (HS27.out.set (g28) PP7 ZR2 26 (HS27.out.get (g28) ZR2 26 (by simp)) (by omega) (fun p hp => by simp at hp; rcases hp with rfl | rfl | rfl | rfl <;> first | exact .inl rfl | exact .inr ⟨by simp, by simp only; omega⟩))
  clear HS27
  generalize w26.setRow (g28) PP7 = w29 at *
  refine wpList_nil ?_
  have HS31 : Hid (Kt w [(g28, PP7, 26), (w.heap.size, ZR2, 26)] w29) := Lib.hid (HS30.out.sub (fun p hp => by simp at hp; rcases hp with rfl | rfl <;> simp))
  clear HS30
  go_upto_region 10 with fail
  refine wp_region_list ?_
  refine wpList_run rfl (.bool false) (exec_move (.tmp 6) rfl _ rfl _) ?_
  simp only [Act.put, sT, sS, sZ]
  refine wpList_run rfl (.bool true) (exec_notv (.tmp 41) rfl _ rfl true rfl _) ?_
  simp only [Act.put, sT, sS, sZ]
  refine wpList_run rfl (.bool true) (exec_move (.tmp 42) rfl _ rfl _) ?_
  simp only [Act.put, sT, sS, sZ]
  refine wpList_skipG ?_ (by rfl)
  simp only [Act.put, sT, sS, sZ]
  refine wpList_skipG ?_ (by rfl)
  simp only [Act.put, sT, sS, sZ]
  refine wpList_run rfl (.bool true) (exec_pickt (.tmp 43) (.const (.bool true)) (.tmp 45) rfl rfl _ rfl _) ?_
  simp only [Act.put, sT, sS, sZ]
  refine wpList_run rfl (.bool true) (exec_move (.tmp 46) rfl _ rfl _) ?_
  simp only [Act.put, sT, sS, sZ]
  refine wpList_skipG ?_ (by rfl)
  simp only [Act.put, sT, sS, sZ]
  refine wpList_skipG ?_ (by rfl)
  simp only [Act.put, sT, sS, sZ]
  refine wpList_skipG ?_ (by rfl)
  simp only [Act.put, sT, sS, sZ]
  refine wpList_skipG ?_ (by rfl)
  simp only [Act.put, sT, sS, sZ]
  refine wpList_run rfl (.bool true) (exec_pickt (.tmp 47) (.const (.bool true)) (.tmp 51) rfl rfl _ rfl _) ?_
  simp only [Act.put, sT, sS, sZ]
  refine wpList_nil ?_
  have HS32 : Hid (Kt w [(w.heap.size, ZR2, 26)] w29) := Lib.hid (HS31.out.sub (fun p hp => by simp at hp; subst hp; simp))
  clear HS31
  go_upto_region 11 with fail
  refine wp_region_list ?_
  refine wpList_run rfl (.agg PP9) (exec_buildN _ 26 #[] rfl #[] (by simp [Act.eval]) _ (BF8 _)) ?_
  simp only [Act.put, sT, sS, sZ]
  refine wpList_run0 rfl (exec_storeT26 _ (.tmp 2) (.tmp 53) rfl (w.heap.size) rfl PP9 IPP9 rfl ZR2 26 (HS32.out.get (w.heap.size) ZR2 26 (by simp)) SZZR2) ?_
  simp only [Act.put, sT, sS, sZ]
  have HS34 : Hid (Kt w [(w.heap.size, PP9, 26)] (w29.setRow (w.heap.size) PP9)) := Lib.hid (HS32.out.set (w.heap.size) PP9 ZR2 26 (HS32.out.get (w.heap.size) ZR2 26 (by simp)) (by omega) (fun p hp => by simp at hp; subst hp; exact .inl rfl))
  clear HS32
  generalize w29.setRow (w.heap.size) PP9 = w33 at *
  refine wpList_run rfl (.bool false) (exec_assign (.const (.bool false)) rfl _ rfl _) ?_
  simp only [Act.put, sT, sS, sZ]
  refine wpList_nil ?_
  go_wp2
  exact bodyPost_ret (results_two rfl _ _ _ ⟨w.heap.size, 0, none⟩ rfl _ (loadT26 IPP9 (HS34.out.get (w.heap.size) PP9 26 (by simp)))) rfl ⟨rfl, HS34.out.1⟩
set_option maxRecDepth 100000 in
set_option maxHeartbeats 2000000 in
theorem from_b1 (m : List UInt8) (b c : UInt8) (hm : m.length = 31) (hcb : c.toNat = b.toNat % 128) (han1 : bits .andNot .u8 (b.toNat : Int) 128 = (c.toNat : Int)) (y : Nat) (hy : y = leVal m + c.toNat * 256 ^ 31) (hyp : ¬ y < pp) (hq : ¬ b.toNat < 128) (w : World) (hT0 : GlobT w) (hG0 : Glob w) :
    Calls Tryd.prog 11 #[.string ⟨(m ++ [b]).toArray⟩] w fun e w' => e = .returned (.tuple #[.agg (num 0 ++ num 0), .bool false]) ∧ Below w.heap.size w w' := by
  have HG := Lib.hid hG0
  have HT := Lib.hid hT0
  have han := Lib.hid han1
  have HF := Lib.hid (from_any ⟨(m ++ [c]).toArray⟩ (by show (m ++ [c]).length ≤ _; rw [len31 c hm]; decide))
  rw [fromF_parts m c hm, ← hy, if_neg hyp] at HF
  have hlen : Hid ((⟨(m ++ [b]).toArray⟩ : ByteArray).size = 32) := Lib.hid (len31 b hm)
  have hnb : Hid (false = !(((32 : Nat) : Int) == 32)) := Lib.hid (by decide)
  have hgb : Hid (decide ((128 : Int) ≤ (b.toNat : Int)) = true) := Lib.hid (by simp; omega)
  have HC5 : Hid (∀ w, GlobT w → Glob w → _) := Lib.hid (beside_any (0) (by decide))
  have HC8 := Lib.hid (subf_any (0) ((rootF (fromU (0))).1) (by decide) (pp_lt (rootF_lt _)))
  obtain ⟨NN1, hNN1⟩ : ∃ zz9, Hid (zz9 = num (0)) := ⟨_, Lib.hid rfl⟩
  have INN1 : IsNum NN1 := by rw [hNN1.out]; exact isNum _
  obtain ⟨ZR2, hZR2⟩ : ∃ zz9, Hid (zz9 = (rowOf .u64 8 (fun _ => 0)).toArray) := ⟨_, Lib.hid rfl⟩
  have SZZR2 : ZR2.size = 8 := by rw [hZR2.out]; rfl
  obtain ⟨NN3, hNN3⟩ : ∃ zz9, Hid (zz9 = num ((rootF (fromU (0))).1)) := ⟨_, Lib.hid rfl⟩
  have INN3 : IsNum NN3 := by rw [hNN3.out]; exact isNum _
  obtain ⟨bb4, hbb4⟩ : ∃ zz9, Hid (zz9 = (rootF (fromU (0))).2) := ⟨_, Lib.hid rfl⟩
  obtain ⟨NN7, hNN7⟩ : ∃ zz9, Hid (zz9 = num (subF (0) ((rootF (fromU (0))).1))) := ⟨_, Lib.hid rfl⟩
  have INN7 : IsNum NN7 := by rw [hNN7.out]; exact isNum _
  obtain ⟨PP10, hPP10⟩ : ∃ zz9, Hid (zz9 = NN7 ++ NN1) := ⟨_, Lib.hid rfl⟩
  have IPP10 : IsRw 8 PP10 := by rw [hPP10.out]; exact rw_app (isRw4 INN7) (isRw4 INN1)
  have SPP10_0 : Part PP10 0 NN7 := by rw [hPP10.out]; exact part_left 0 (part_all NN7) NN1
  have SPP10_4 : Part PP10 4 NN1 := by rw [hPP10.out]; exact part_right (NN7) NN1 4 (by simp [INN7.size])
  obtain ⟨PP12, hPP12⟩ : ∃ zz9, Hid (zz9 = NN1 ++ NN1) := ⟨_, Lib.hid rfl⟩
  have IPP12 : IsRw 8 PP12 := by rw [hPP12.out]; exact rw_app (isRw4 INN1) (isRw4 INN1)
  have SPP12_0 : Part PP12 0 NN1 := by rw [hPP12.out]; exact part_left 0 (part_all NN1) NN1
  have SPP12_4 : Part PP12 4 NN1 := by rw [hPP12.out]; exact part_right (NN1) NN1 4 (by simp [INN1.size])
  have HZ26 : ∀ w, (zeroValue 26).run Tryd.prog w = .ok (.agg ZR2) w := by rw [hZR2.out]; exact zeroT26
  have HZ24 : ∀ w, (zeroValue 24).run Tryd.prog w = .ok (.agg NN1) w := by rw [hNN1.out]; exact zero_run
  have SZNN1 := INN1.size
  have BF6 : ∀ w, (Instr.build 24 #[]).run Tryd.prog w = .ok (.agg NN1) w := by rw [hNN1.out]; exact build0_run
  have BF9 : ∀ w, (Instr.build 26 #[(0, .agg NN7), (1, .agg NN1)]).run Tryd.prog w = .ok (.agg PP10) w := by rw [hPP10.out]; exact bp01 INN7 INN1
  have BF11 : ∀ w, (Instr.build 26 #[]).run Tryd.prog w = .ok (.agg PP12) w := by have q := bp_none; rw [← hNN1.out] at q; rw [hPP12.out]; exact q
  try simp only [← hNN1.out, ← hNN3.out, ← hbb4.out, ← hNN7.out] at HC5 HC8 HF ⊢
  try simp only [← hZR2.out, ← hPP10.out, ← hPP12.out] at HC5 HC8 HF ⊢
  clear hNN1 hZR2 hNN3 hbb4 hNN7 hPP10 hPP12 hcb han1 hy hyp hG0 hT0 hq
  go_enter Tryd.func11, Tryd.ntmps11
  have HS : Hid (Kt w [] w) := Lib.hid (Kt.nil w)
  go_upto_region 0 with fail
  refine wp_region_list ?_
  refine wpList_run rfl _ (exec_alloc_agg _ 26 rfl _ (HZ26 _)) ?_
  simp only [Act.put, sT, sS, sZ]
  have bg3 := HS.out.1.size
  have HS2 := Lib.hid (HS.out.new ZR2 26)
  clear HS
  generalize w.alloc (.cells ZR2 26) = w1 at *
  refine wpList_run rfl (.bool false) (exec_assign (.const (.bool false)) rfl _ rfl _) ?_
  simp only [Act.put, sT, sS, sZ]
  refine wpList_nil ?_
  go_upto_region 1 with fail
  refine wp_region_list ?_
  refine wpList_run rfl (.string ⟨(m ++ [b]).toArray⟩) (exec_move (.tmp 0) rfl _ rfl _) ?_
  simp only [Act.put, sT, sS, sZ]
  refine wpList_run rfl (.int .i64 (32 : Int)) (exec_len9 (.tmp 10) rfl ⟨(m ++ [b]).toArray⟩ 32 hlen.out rfl _) ?_
  simp only [Act.put, sT, sS, sZ]
  refine wpList_run rfl (.bool false) (exec_neq32 (.tmp 11) rfl rfl 32 false hnb.out rfl _) ?_
  simp only [Act.put, sT, sS, sZ]
  refine wpList_nil ?_
  go_upto_region 3 with fail
  refine wp_region_list ?_
  refine wpList_run rfl (.string ⟨(m ++ [b]).toArray⟩) (exec_move (.tmp 0) rfl _ rfl _) ?_
  simp only [Act.put, sT, sS, sZ]
  obtain ⟨cap8, w4, hcv, hbf, hbl, hlt⟩ := conv_buf w1 (m ++ [b]) (len31 b hm)
  refine wpList_run rfl _ (exec_convG 9 44 (.tmp 14) rfl _ rfl _ _ _ hcv) ?_
  simp only [Act.put, sT, sS, sZ]
  have lgb6_0 := HS2.out.lt (w.heap.size) ZR2 26 (by simp)
  have bgb6 := HS2.out.1.size
  have HS5 := Lib.hid (HS2.out.below hbl)
  have HB7 := Lib.hid hbf
  clear HS2 hcv hbf hbl
  generalize w1.heap.size = gb6 at *
  refine wpList_run rfl (.slice (some ⟨gb6, 0, none⟩) 32 cap8) (exec_assign (.tmp 15) rfl _ rfl _) ?_
  simp only [Act.put, sT, sS, sZ]
  refine wpList_nil ?_
  go_upto_region 4 with fail
  refine wp_region_list ?_
  refine wpList_run rfl (.slice (some ⟨gb6, 0, none⟩) 32 cap8) (exec_move (.tmp 4) rfl _ rfl _) ?_
  simp only [Act.put, sT, sS, sZ]
  refine wpList_run rfl (.pointer (some ⟨gb6, 31, none⟩)) (exec_index44 (.tmp 16) rfl rfl (gb6) cap8 rfl _) ?_
  simp only [Act.put, sT, sS, sZ]
  refine wpList_run rfl (.int .u8 (b.toNat : Int)) (exec_load_one _ 5 (.tmp 17) rfl ⟨gb6, 31, none⟩ rfl _ (HB7.out.cell31 hm) _ Tryd.underlying5 rfl) ?_
  simp only [Act.put, sT, sS, sZ]
  refine wpList_run rfl (.int .u8 (c.toNat : Int)) (exec_andNot128 (.tmp 18) rfl rfl b c han.out rfl _) ?_
  simp only [Act.put, sT, sS, sZ]
  refine wpList_run rfl (.pointer (some ⟨gb6, 31, none⟩)) (exec_index44 (.tmp 16) rfl rfl (gb6) cap8 rfl _) ?_
  simp only [Act.put, sT, sS, sZ]
  refine wpList_run0 rfl (exec_store31 _ (.tmp 20) (.tmp 19) rfl (gb6) rfl c rfl HB7.out hm) ?_
  simp only [Act.put, sT, sS, sZ]
  have HS10 := Lib.hid (HS5.out.cellOther (gb6) 31 (.int .u8 (c.toNat : Int)) (by omega) (fun p hp => by simp at hp; subst hp; simp only; omega))
  have HB11 := Lib.hid (HB7.out.set hm c)
  clear HS5 HB7
  generalize w4.setCell ⟨gb6, 31, none⟩ (.int .u8 (c.toNat : Int)) = w9 at *
  refine wpList_nil ?_
  go_upto_region 5 with fail
  refine wp_region_list ?_
  refine wpList_run rfl (.slice (some ⟨gb6, 0, none⟩) 32 cap8) (exec_move (.tmp 4) rfl _ rfl _) ?_
  simp only [Act.put, sT, sS, sZ]
  refine wpList_run rfl (.string ⟨(m ++ [c]).toArray⟩) (exec_convG 44 9 (.tmp 22) rfl _ rfl _ _ _ (HB11.out.str (len31 c hm))) ?_
  simp only [Act.put, sT, sS, sZ]
  refine wpList_callF rfl 28 #[.tmp 23] #[9] rfl #[.string ⟨(m ++ [c]).toArray⟩] en28 (HF.out _) ?_
  rintro v w12 ⟨he, hb⟩
  cases he
  have HS13 := Lib.hid (HS10.out.below hb)
  clear hb HS10
  simp only [Act.put, sT, sS, sZ]
  refine wpList_run rfl (.tuple #[.agg NN1, .bool false]) (exec_move (.tmp 24) rfl _ rfl _) ?_
  simp only [Act.put, sT, sS, sZ]
  refine wpList_run rfl (.agg NN1) (exec_extract (.tmp 21) 0 rfl _ _ rfl rfl _) ?_
  simp only [Act.put, sT, sS, sZ]
  refine wpList_run rfl (.bool false) (exec_extract (.tmp 21) 1 rfl _ _ rfl rfl _) ?_
  simp only [Act.put, sT, sS, sZ]
  refine wpList_run rfl _ (exec_alloc_agg _ 24 rfl _ (HZ24 _)) ?_
  simp only [Act.put, sT, sS, sZ]
  have lg16_0 := HS13.out.lt (w.heap.size) ZR2 26 (by simp)
  have bg16 := HS13.out.1.size
  have HS15 := Lib.hid (HS13.out.new NN1 24)
  clear HS13
  generalize w12.alloc (.cells NN1 24) = w14 at *
  generalize w12.heap.size = g16 at *
  refine wpList_run0 rfl (exec_store24 _ (.tmp 5) (.tmp 25) rfl (g16) rfl NN1 INN1 rfl NN1 24 (HS15.out.get (g16) NN1 24 (by simp)) SZNN1) ?_
  simp only [Act.put, sT, sS, sZ]
  have HS18 : Hid (Kt w [(g16, NN1, 24), (w.heap.size, ZR2, 26)] (w14.setRow (g16) NN1)) := Lib.hid (HS15.out.set (g16) NN1 NN1 24 (HS15.out.get (g16) NN1 24 (by simp)) (by omega) (fun p hp => by simp at hp; rcases hp with rfl | rfl <;> first | exact .inl rfl | exact .inr ⟨by simp, by simp only; omega⟩))
  clear HS15
  generalize w14.setRow (g16) NN1 = w17 at *
  refine wpList_run rfl (.bool false) (exec_assign (.tmp 26) rfl _ rfl _) ?_
  simp only [Act.put, sT, sS, sZ]
  refine wpList_nil ?_
  go_upto_region 6 with fail
  refine wp_region_list ?_
  refine wpList_run rfl (.agg NN1) (exec_load_of _ 24 (.tmp 5) rfl ⟨g16, 0, none⟩ rfl _ (loadA24 INN1 (HS18.out.get (g16) NN1 24 (by simp)))) ?_
  simp only [Act.put, sT, sS, sZ]
  refine wpList_callF rfl 29 #[.tmp 28] #[24] rfl #[.agg NN1] en29 (HC5.out _ (HT.out.below HS18.out.1) (HG.out.below HS18.out.1)) ?_
  rintro v w19 ⟨he, hb⟩
  cases he
  have HS20 := Lib.hid (HS18.out.below hb)
  clear hb HS18
  simp only [Act.put, sT, sS, sZ]
  refine wpList_run rfl (.tuple #[.agg NN3, .bool bb4]) (exec_move (.tmp 29) rfl _ rfl _) ?_
  simp only [Act.put, sT, sS, sZ]
  refine wpList_run rfl (.agg NN3) (exec_extract (.tmp 27) 0 rfl _ _ rfl rfl _) ?_
  simp only [Act.put, sT, sS, sZ]
  refine wpList_run rfl (.bool bb4) (exec_extract (.tmp 27) 1 rfl _ _ rfl rfl _) ?_
  simp only [Act.put, sT, sS, sZ]
  refine wpList_run rfl _ (exec_alloc_agg _ 24 rfl _ (HZ24 _)) ?_
  simp only [Act.put, sT, sS, sZ]
  have lg23_0 := HS20.out.lt (g16) NN1 24 (by simp)
  have lg23_1 := HS20.out.lt (w.heap.size) ZR2 26 (by simp)
  have bg23 := HS20.out.1.size
  have HS22 := Lib.hid (HS20.out.new NN1 24)
  clear HS20
  generalize w19.alloc (.cells NN1 24) = w21 at *
  generalize w19.heap.size = g23 at *
  refine wpList_run0 rfl (exec_store24 _ (.tmp 7) (.tmp 30) rfl (g23) rfl NN3 INN3 rfl NN1 24 (HS22.out.get (g23) NN1 24 (by simp)) SZNN1) ?_
  simp only [Act.put, sT, sS, sZ]
  have HS25 : Hid (Kt w [(g23, NN3, 24), (g16, NN1, 24), (w.heap.size, ZR2, 26)] (w21.setRow (g23) NN3)) := Lib.hid (HS22.out.set (g23) NN3 NN1 24 (HS22.out.get (g23) NN1 24 (by simp)) (by omega) (fun p hp => by simp at hp; rcases hp with rfl | rfl | rfl <;> first | exact .inl rfl | exact .inr ⟨by simp, by simp only; omega⟩))
  clear HS22
  generalize w21.setRow (g23) NN3 = w24 at *
  refine wpList_run rfl (.bool bb4) (exec_assign (.tmp 31) rfl _ rfl _) ?_
  simp only [Act.put, sT, sS, sZ]
  refine wpList_nil ?_
  go_upto_region 7 with fail
  refine wp_region_list ?_
  refine wpList_run rfl (.string ⟨(m ++ [b]).toArray⟩) (exec_move (.tmp 0) rfl _ rfl _) ?_
  simp only [Act.put, sT, sS, sZ]
  refine wpList_run rfl (.int .u8 (b.toNat : Int)) (exec_index31 (.tmp 32) rfl rfl m b hm rfl _) ?_
  simp only [Act.put, sT, sS, sZ]
  refine wpList_run rfl (.bool true) (exec_geq128 (.tmp 33) rfl rfl b.toNat true hgb.out rfl _) ?_
  simp only [Act.put, sT, sS, sZ]
  refine wpList_nil ?_
  go_upto_region 8 with fail
  refine wp_region_list ?_
  refine wpList_run rfl (.agg NN1) (exec_buildN _ 24 #[] rfl #[] (by simp [Act.eval]) _ (BF6 _)) ?_
  simp only [Act.put, sT, sS, sZ]
  refine wpList_run rfl (.agg NN3) (exec_load_of _ 24 (.tmp 7) rfl ⟨g23, 0, none⟩ rfl _ (loadA24 INN3 (HS25.out.get (g23) NN3 24 (by simp)))) ?_
  simp only [Act.put, sT, sS, sZ]
  refine wpList_callF rfl 30 #[.tmp 35, .tmp 36] #[24, 24] rfl #[.agg NN1, .agg NN3] en30 (HC8.out _) ?_
  rintro v w26 ⟨he, hb⟩
  cases he
  have HS27 := Lib.hid (HS25.out.below hb)
  clear hb HS25
  simp only [Act.put, sT, sS, sZ]
  refine wpList_run0 rfl (exec_store24 _ (.tmp 7) (.tmp 37) rfl (g23) rfl NN7 INN7 rfl NN3 24 (HS27.out.get (g23) NN3 24 (by simp)) INN3.size) ?_
  simp only [Act.put, sT, sS, sZ]
  have HS29 : Hid (Kt w [(g23, NN7, 24), (g16, NN1, 24), (w.heap.size, ZR2, 26)] (w26.setRow (g23) NN7)) := Lib.hid (HS27.out.set (g23) NN7 NN3 24 (HS27.out.get (g23) NN3 24 (by simp)) (by omega) (fun p hp => by simp at hp; rcases hp with rfl | rfl | rfl <;> first | exact .inl rfl | exact .inr ⟨by simp, by simp only; omega⟩))
  clear HS27
  generalize w26.setRow (g23) NN7 = w28 at *
  refine wpList_nil ?_
  go_upto_region 9 with fail
  refine wp_region_list ?_
  refine wpList_run rfl (.agg NN7) (exec_load_of _ 24 (.tmp 7) rfl ⟨g23, 0, none⟩ rfl _ (loadA24 INN7 (HS29.out.get (g23) NN7 24 (by simp)))) ?_
  simp only [Act.put, sT, sS, sZ]
  refine wpList_run rfl (.agg NN1) (exec_load_of _ 24 (.tmp 5) rfl ⟨g16, 0, none⟩ rfl _ (loadA24 INN1 (HS29.out.get (g16) NN1 24 (by simp)))) ?_
  simp only [Act.put, sT, sS, sZ]
  refine wpList_run rfl (.agg PP10) (exec_buildN _ 26 #[(0, .tmp 38), (1, .tmp 39)] rfl #[(0, .agg NN7), (1, .agg NN1)] (by simp [Act.eval]) _ (BF9 _)) ?_
  simp only [Act.put, sT, sS, sZ]
  refine wpList_run rfl _ (exec_alloc_agg _ 26 rfl _ (HZ26 _)) ?_
  simp only [Act.put, sT, sS, sZ]
  have lg32_0 := HS29.out.lt (g23) NN7 24 (by simp)
  have lg32_1 := HS29.out.lt (g16) NN1 24 (by simp)
  have lg32_2 := HS29.out.lt (w.heap.size) ZR2 26 (by simp)
  have bg32 := HS29.out.1.size
  have HS31 := Lib.hid (HS29.out.new ZR2 26)
  clear HS29
  generalize w28.alloc (.cells ZR2 26) = w30 at *
  generalize w28.heap.size = g32 at *
  refine wpList_run0 rfl (exec_storeT26 _ (.tmp 9) (.tmp 40) rfl (g32) rfl PP10 IPP10 rfl ZR2 26 (HS31.out.get (g32) ZR2 26 (by simp)) SZZR2) ?_
  simp only [Act.put, sT, sS, sZ]
  have HS34 : Hid (Kt w [(g32, PP10, 26), (g23, NN7, 24), (g16, NN1, 24), (w.heap.size, ZR2, 26)] (w30.setRow (g32) PP10)) := Lib.hid (HS31.out.set (g32) PP10 ZR2 26 (HS31.out.get (g32) ZR2 26 (by simp)) (by omega) (fun p hp => by simp at hp; rcases hp with rfl | rfl | rfl | rfl <;> first | exact .inl rfl | exact .inr ⟨by simp, by simp only; omega⟩))
  clear HS31
  generalize w30.setRow (g32) PP10 = w33 at *
  refine wpList_nil ?_
  have HS35 : Hid (Kt w [(g32, PP10, 26), (w.heap.size, ZR2, 26)] w33) := Lib.hid (HS34.out.sub (fun p hp => by simp at hp; rcases hp with rfl | rfl <;> simp))
  clear HS34
  go_upto_region 10 with fail
  refine wp_region_list ?_
  refine wpList_run rfl (.bool false) (exec_move (.tmp 6) rfl _ rfl _) ?_
  simp only [Act.put, sT, sS, sZ]
  refine wpList_run rfl (.bool true) (exec_notv (.tmp 41) rfl _ rfl true rfl _) ?_
  simp only [Act.put, sT, sS, sZ]
  refine wpList_run rfl (.bool true) (exec_move (.tmp 42) rfl _ rfl _) ?_
  simp only [Act.put, sT, sS, sZ]
  refine wpList_skipG ?_ (by rfl)
  simp only [Act.put, sT, sS, sZ]
  refine wpList_skipG ?_ (by rfl)
  simp only [Act.put, sT, sS, sZ]
  refine wpList_run rfl (.bool true) (exec_pickt (.tmp 43) (.const (.bool true)) (.tmp 45) rfl rfl _ rfl _) ?_
  simp only [Act.put, sT, sS, sZ]
  refine wpList_run rfl (.bool true) (exec_move (.tmp 46) rfl _ rfl _) ?_
  simp only [Act.put, sT, sS, sZ]
  refine wpList_skipG ?_ (by rfl)
  simp only [Act.put, sT, sS, sZ]
  refine wpList_skipG ?_ (by rfl)
  simp only [Act.put, sT, sS, sZ]
  refine wpList_skipG ?_ (by rfl)
  simp only [Act.put, sT, sS, sZ]
  refine wpList_skipG ?_ (by rfl)
  simp only [Act.put, sT, sS, sZ]
  refine wpList_run rfl (.bool true) (exec_pickt (.tmp 47) (.const (.bool true)) (.tmp 51) rfl rfl _ rfl _) ?_
  simp only [Act.put, sT, sS, sZ]
  refine wpList_nil ?_
  have HS36 : Hid (Kt w [(w.heap.size, ZR2, 26)] w33) := Lib.hid (HS35.out.sub (fun p hp => by simp at hp; subst hp; simp))
  clear HS35
  go_upto_region 11 with fail
  refine wp_region_list ?_
  refine wpList_run rfl (.agg PP12) (exec_buildN _ 26 #[] rfl #[] (by simp [Act.eval]) _ (BF11 _)) ?_
  simp only [Act.put, sT, sS, sZ]
  refine wpList_run0 rfl (exec_storeT26 _ (.tmp 2) (.tmp 53) rfl (w.heap.size) rfl PP12 IPP12 rfl ZR2 26 (HS36.out.get (w.heap.size) ZR2 26 (by simp)) SZZR2) ?_
  simp only [Act.put, sT, sS, sZ]
  have HS38 : Hid (Kt w [(w.heap.size, PP12, 26)] (w33.setRow (w.heap.size) PP12)) := Lib.hid (HS36.out.set (w.heap.size) PP12 ZR2 26 (HS36.out.get (w.heap.size) ZR2 26 (by simp)) (by omega) (fun p hp => by simp at hp; subst hp; exact .inl rfl))
  clear HS36
  generalize w33.setRow (w.heap.size) PP12 = w37 at *
  refine wpList_run rfl (.bool false) (exec_assign (.const (.bool false)) rfl _ rfl _) ?_
  simp only [Act.put, sT, sS, sZ]
  refine wpList_nil ?_
  go_wp2
  exact bodyPost_ret (results_two rfl _ _ _ ⟨w.heap.size, 0, none⟩ rfl _ (loadT26 IPP12 (HS38.out.get (w.heap.size) PP12 26 (by simp)))) rfl ⟨rfl, HS38.out.1⟩
set_option maxRecDepth 100000 in
set_option maxHeartbeats 2000000 in
theorem from_c0 (m : List UInt8) (b c : UInt8) (hm : m.length = 31) (hcb : c.toNat = b.toNat % 128) (han1 : bits .andNot .u8 (b.toNat : Int) 128 = (c.toNat : Int)) (y : Nat) (hy : y = leVal m + c.toNat * 256 ^ 31) (hyp : y < pp) (hth : (rootF (fromU y)).2 = false) (hq : b.toNat < 128) (w : World) (hT0 : GlobT w) (hG0 : Glob w) :
    Calls Tryd.prog 11 #[.string ⟨(m ++ [b]).toArray⟩] w fun e w' => e = .returned (.tuple #[.agg (num 0 ++ num 0), .bool false]) ∧ Below w.heap.size w w' := by
  have HG := Lib.hid hG0
  have HT := Lib.hid hT0
  have han := Lib.hid han1
  have HF := Lib.hid (from_any ⟨(m ++ [c]).toArray⟩ (by show (m ++ [c]).length ≤ _; rw [len31 c hm]; decide))
  rw [fromF_parts m c hm, ← hy, if_pos hyp] at HF
  have hlen : Hid ((⟨(m ++ [b]).toArray⟩ : ByteArray).size = 32) := Lib.hid (len31 b hm)
  have hnb : Hid (false = !(((32 : Nat) : Int) == 32)) := Lib.hid (by decide)
  have hgb : Hid (decide ((128 : Int) ≤ (b.toNat : Int)) = false) := Lib.hid (by simp; omega)
  have HC5 : Hid (∀ w, GlobT w → Glob w → _) := Lib.hid (beside_any (y) (pp_lt hyp))
  rw [hth] at HC5
  obtain ⟨NN1, hNN1⟩ : ∃ zz9, Hid (zz9 = num (y)) := ⟨_, Lib.hid rfl⟩
  have INN1 : IsNum NN1 := by rw [hNN1.out]; exact isNum _
  obtain ⟨ZR2, hZR2⟩ : ∃ zz9, Hid (zz9 = (rowOf .u64 8 (fun _ => 0)).toArray) := ⟨_, Lib.hid rfl⟩
  have SZZR2 : ZR2.size = 8 := by rw [hZR2.out]; rfl
  obtain ⟨NN3, hNN3⟩ : ∃ zz9, Hid (zz9 = num (0)) := ⟨_, Lib.hid rfl⟩
  have INN3 : IsNum NN3 := by rw [hNN3.out]; exact isNum _
  obtain ⟨NN4, hNN4⟩ : ∃ zz9, Hid (zz9 = num ((rootF (fromU (y))).1)) := ⟨_, Lib.hid rfl⟩
  have INN4 : IsNum NN4 := by rw [hNN4.out]; exact isNum _
  obtain ⟨PP7, hPP7⟩ : ∃ zz9, Hid (zz9 = NN4 ++ NN1) := ⟨_, Lib.hid rfl⟩
  have IPP7 : IsRw 8 PP7 := by rw [hPP7.out]; exact rw_app (isRw4 INN4) (isRw4 INN1)
  have SPP7_0 : Part PP7 0 NN4 := by rw [hPP7.out]; exact part_left 0 (part_all NN4) NN1
  have SPP7_4 : Part PP7 4 NN1 := by rw [hPP7.out]; exact part_right (NN4) NN1 4 (by simp [INN4.size])
  obtain ⟨PP9, hPP9⟩ : ∃ zz9, Hid (zz9 = NN3 ++ NN3) := ⟨_, Lib.hid rfl⟩
  have IPP9 : IsRw 8 PP9 := by rw [hPP9.out]; exact rw_app (isRw4 INN3) (isRw4 INN3)
  have SPP9_0 : Part PP9 0 NN3 := by rw [hPP9.out]; exact part_left 0 (part_all NN3) NN3
  have SPP9_4 : Part PP9 4 NN3 := by rw [hPP9.out]; exact part_right (NN3) NN3 4 (by simp [INN3.size])
  have HZ26 : ∀ w, (zeroValue 26).run Tryd.prog w = .ok (.agg ZR2) w := by rw [hZR2.out]; exact zeroT26
  have HZ24 : ∀ w, (zeroValue 24).run Tryd.prog w = .ok (.agg NN3) w := by rw [hNN3.out]; exact zero_run
  have SZNN3 := INN3.size
  have BF6 : ∀ w, (Instr.build 26 #[(0, .agg NN4), (1, .agg NN1)]).run Tryd.prog w = .ok (.agg PP7) w := by rw [hPP7.out]; exact bp01 INN4 INN1
  have BF8 : ∀ w, (Instr.build 26 #[]).run Tryd.prog w = .ok (.agg PP9) w := by have q := bp_none; rw [← hNN3.out] at q; rw [hPP9.out]; exact q
  try simp only [← hNN1.out, ← hNN3.out, ← hNN4.out] at HC5 HF ⊢
  try simp only [← hZR2.out, ← hPP7.out, ← hPP9.out] at HC5 HF ⊢
  clear hNN1 hZR2 hNN3 hNN4 hPP7 hPP9 hcb han1 hy hyp hG0 hT0 hth hq
  go_enter Tryd.func11, Tryd.ntmps11
  have HS : Hid (Kt w [] w) := Lib.hid (Kt.nil w)
  go_upto_region 0 with fail
  refine wp_region_list ?_
  refine wpList_run rfl _ (exec_alloc_agg _ 26 rfl _ (HZ26 _)) ?_
  simp only [Act.put, sT, sS, sZ]
  have bg3 := HS.out.1.size
  have HS2 := Lib.hid (HS.out.new ZR2 26)
  clear HS
  generalize w.alloc (.cells ZR2 26) = w1 at *
  refine wpList_run rfl (.bool false) (exec_assign (.const (.bool false)) rfl _ rfl _) ?_
  simp only [Act.put, sT, sS, sZ]
  refine wpList_nil ?_
  go_upto_region 1 with fail
  refine wp_region_list ?_
  refine wpList_run rfl (.string ⟨(m ++ [b]).toArray⟩) (exec_move (.tmp 0) rfl _ rfl _) ?_
  simp only [Act.put, sT, sS, sZ]
  refine wpList_run rfl (.int .i64 (32 : Int)) (exec_len9 (.tmp 10) rfl ⟨(m ++ [b]).toArray⟩ 32 hlen.out rfl _) ?_
  simp only [Act.put, sT, sS, sZ]
  refine wpList_run rfl (.bool false) (exec_neq32 (.tmp 11) rfl rfl 32 false hnb.out rfl _) ?_
  simp only [Act.put, sT, sS, sZ]
  refine wpList_nil ?_
  go_upto_region 3 with fail
  refine wp_region_list ?_
  refine wpList_run rfl (.string ⟨(m ++ [b]).toArray⟩) (exec_move (.tmp 0) rfl _ rfl _) ?_
  simp only [Act.put, sT, sS, sZ]
  obtain ⟨cap8, w4, hcv, hbf, hbl, hlt⟩ := conv_buf w1 (m ++ [b]) (len31 b hm)
  refine wpList_run rfl _ (exec_convG 9 44 (.tmp 14) rfl _ rfl _ _ _ hcv) ?_
  simp only [Act.put, sT, sS, sZ]
  have lgb6_0 := HS2.out.lt (w.heap.size) ZR2 26 (by simp)
  have bgb6 := HS2.out.1.size
  have HS5 := Lib.hid (HS2.out.below hbl)
  have HB7 := Lib.hid hbf
  clear HS2 hcv hbf hbl
  generalize w1.heap.size = gb6 at *
  refine wpList_run rfl (.slice (some ⟨gb6, 0, none⟩) 32 cap8) (exec_assign (.tmp 15) rfl _ rfl _) ?_
  simp only [Act.put, sT, sS, sZ]
  refine wpList_nil ?_
  go_upto_region 4 with fail
  refine wp_region_list ?_
  refine wpList_run rfl (.slice (some ⟨gb6, 0, none⟩) 32 cap8) (exec_move (.tmp 4) rfl _ rfl _) ?_
  simp only [Act.put, sT, sS, sZ]
  refine wpList_run rfl (.pointer (some ⟨gb6, 31, none⟩)) (exec_index44 (.tmp 16) rfl rfl (gb6) cap8 rfl _) ?_
  simp only [Act.put, sT, sS, sZ]
  refine wpList_run rfl (.int .u8 (b.toNat : Int)) (exec_load_one _ 5 (.tmp 17) rfl ⟨gb6, 31, none⟩ rfl _ (HB7.out.cell31 hm) _ Tryd.underlying5 rfl) ?_
  simp only [Act.put, sT, sS, sZ]
  refine wpList_run rfl (.int .u8 (c.toNat : Int)) (exec_andNot128 (.tmp 18) rfl rfl b c han.out rfl _) ?_
  simp only [Act.put, sT, sS, sZ]
  refine wpList_run rfl (.pointer (some ⟨gb6, 31, none⟩)) (exec_index44 (.tmp 16) rfl rfl (gb6) cap8 rfl _) ?_
  simp only [Act.put, sT, sS, sZ]
  refine wpList_run0 rfl (exec_store31 _ (.tmp 20) (.tmp 19) rfl (gb6) rfl c rfl HB7.out hm) ?_
  simp only [Act.put, sT, sS, sZ]
  have HS10 := Lib.hid (HS5.out.cellOther (gb6) 31 (.int .u8 (c.toNat : Int)) (by omega) (fun p hp => by simp at hp; subst hp; simp only; omega))
  have HB11 := Lib.hid (HB7.out.set hm c)
  clear HS5 HB7
  generalize w4.setCell ⟨gb6, 31, none⟩ (.int .u8 (c.toNat : Int)) = w9 at *
  refine wpList_nil ?_
  go_upto_region 5 with fail
  refine wp_region_list ?_
  refine wpList_run rfl (.slice (some ⟨gb6, 0, none⟩) 32 cap8) (exec_move (.tmp 4) rfl _ rfl _) ?_
  simp only [Act.put, sT, sS, sZ]
  refine wpList_run rfl (.string ⟨(m ++ [c]).toArray⟩) (exec_convG 44 9 (.tmp 22) rfl _ rfl _ _ _ (HB11.out.str (len31 c hm))) ?_
  simp only [Act.put, sT, sS, sZ]
  refine wpList_callF rfl 28 #[.tmp 23] #[9] rfl #[.string ⟨(m ++ [c]).toArray⟩] en28 (HF.out _) ?_
  rintro v w12 ⟨he, hb⟩
  cases he
  have HS13 := Lib.hid (HS10.out.below hb)
  clear hb HS10
  simp only [Act.put, sT, sS, sZ]
  refine wpList_run rfl (.tuple #[.agg NN1, .bool true]) (exec_move (.tmp 24) rfl _ rfl _) ?_
  simp only [Act.put, sT, sS, sZ]
  refine wpList_run rfl (.agg NN1) (exec_extract (.tmp 21) 0 rfl _ _ rfl rfl _) ?_
  simp only [Act.put, sT, sS, sZ]
  refine wpList_run rfl (.bool true) (exec_extract (.tmp 21) 1 rfl _ _ rfl rfl _) ?_
  simp only [Act.put, sT, sS, sZ]
  refine wpList_run rfl _ (exec_alloc_agg _ 24 rfl _ (HZ24 _)) ?_
  simp only [Act.put, sT, sS, sZ]
  have lg16_0 := HS13.out.lt (w.heap.size) ZR2 26 (by simp)
  have bg16 := HS13.out.1.size
  have HS15 := Lib.hid (HS13.out.new NN3 24)
  clear HS13
  generalize w12.alloc (.cells NN3 24) = w14 at *
  generalize w12.heap.size = g16 at *
  refine wpList_run0 rfl (exec_store24 _ (.tmp 5) (.tmp 25) rfl (g16) rfl NN1 INN1 rfl NN3 24 (HS15.out.get (g16) NN3 24 (by simp)) SZNN3) ?_
  simp only [Act.put, sT, sS, sZ]
  have HS18 : Hid (Kt w [(g16, NN1, 24), (w.heap.size, ZR2, 26)] (w14.setRow (g16) NN1)) := Lib.hid (HS15.out.set (g16) NN1 NN3 24 (HS15.out.get (g16) NN3 24 (by simp)) (by omega) (fun p hp => by simp at hp; rcases hp with rfl | rfl <;> first | exact .inl rfl | exact .inr ⟨by simp, by simp only; omega⟩))
  clear HS15
  generalize w14.setRow (g16) NN1 = w17 at *
  refine wpList_run rfl (.bool true) (exec_assign (.tmp 26) rfl _ rfl _) ?_
  simp only [Act.put, sT, sS, sZ]
  refine wpList_nil ?_
  go_upto_region 6 with fail
  refine wp_region_list ?_
  refine wpList_run rfl (.agg NN1) (exec_load_of _ 24 (.tmp 5) rfl ⟨g16, 0, none⟩ rfl _ (loadA24 INN1 (HS18.out.get (g16) NN1 24 (by simp)))) ?_
  simp only [Act.put, sT, sS, sZ]
  refine wpList_callF rfl 29 #[.tmp 28] #[24] rfl #[.agg NN1] en29 (HC5.out _ (HT.out.below HS18.out.1) (HG.out.below HS18.out.1)) ?_
  rintro v w19 ⟨he, hb⟩
  cases he
  have HS20 := Lib.hid (HS18.out.below hb)
  clear hb HS18
  simp only [Act.put, sT, sS, sZ]
  refine wpList_run rfl (.tuple #[.agg NN4, .bool false]) (exec_move (.tmp 29) rfl _ rfl _) ?_
  simp only [Act.put, sT, sS, sZ]
  refine wpList_run rfl (.agg NN4) (exec_extract (.tmp 27) 0 rfl _ _ rfl rfl _) ?_
  simp only [Act.put, sT, sS, sZ]
  refine wpList_run rfl (.bool false) (exec_extract (.tmp 27) 1 rfl _ _ rfl rfl _) ?_
  simp only [Act.put, sT, sS, sZ]
  refine wpList_run rfl _ (exec_alloc_agg _ 24 rfl _ (HZ24 _)) ?_
  simp only [Act.put, sT, sS, sZ]
  have lg23_0 := HS20.out.lt (g16) NN1 24 (by simp)
  have lg23_1 := HS20.out.lt (w.heap.size) ZR2 26 (by simp)
  have bg23 := HS20.out.1.size
  have HS22 := Lib.hid (HS20.out.new NN3 24)
  clear HS20
  generalize w19.alloc (.cells NN3 24) = w21 at *
  generalize w19.heap.size = g23 at *
  refine wpList_run0 rfl (exec_store24 _ (.tmp 7) (.tmp 30) rfl (g23) rfl NN4 INN4 rfl NN3 24 (HS22.out.get (g23) NN3 24 (by simp)) SZNN3) ?_
  simp only [Act.put, sT, sS, sZ]
  have HS25 : Hid (Kt w [(g23, NN4, 24), (g16, NN1, 24), (w.heap.size, ZR2, 26)] (w21.setRow (g23) NN4)) := Lib.hid (HS22.out.set (g23) NN4 NN3 24 (HS22.out.get (g23) NN3 24 (by simp)) (by omega) (fun p hp => by simp at hp; rcases hp with rfl | rfl | rfl <;> first | exact .inl rfl | exact .inr ⟨by simp, by simp only; omega⟩))
  clear HS22
  generalize w21.setRow (g23) NN4 = w24 at *
  refine wpList_run rfl (.bool false) (exec_assign (.tmp 31) rfl _ rfl _) ?_
  simp only [Act.put, sT, sS, sZ]
  refine wpList_nil ?_
  go_upto_region 7 with fail
  refine wp_region_list ?_
  refine wpList_run rfl (.string ⟨(m ++ [b]).toArray⟩) (exec_move (.tmp 0) rfl _ rfl _) ?_
  simp only [Act.put, sT, sS, sZ]
  refine wpList_run rfl (.int .u8 (b.toNat : Int)) (exec_index31 (.tmp 32) rfl rfl m b hm rfl _) ?_
  simp only [Act.put, sT, sS, sZ]
  refine wpList_run rfl (.bool false) (exec_geq128 (.tmp 33) rfl rfl b.toNat false hgb.out rfl _) ?_
  simp only [Act.put, sT, sS, sZ]
  refine wpList_nil ?_
  go_upto_region 9 with fail
  refine wp_region_list ?_
  refine wpList_run rfl (.agg NN4) (exec_load_of _ 24 (.tmp 7) rfl ⟨g23, 0, none⟩ rfl _ (loadA24 INN4 (HS25.out.get (g23) NN4 24 (by simp)))) ?_
  simp only [Act.put, sT, sS, sZ]
  refine wpList_run rfl (.agg NN1) (exec_load_of _ 24 (.tmp 5) rfl ⟨g16, 0, none⟩ rfl _ (loadA24 INN1 (HS25.out.get (g16) NN1 24 (by simp)))) ?_
  simp only [Act.put, sT, sS, sZ]
  refine wpList_run rfl (.agg PP7) (exec_buildN _ 26 #[(0, .tmp 38), (1, .tmp 39)] rfl #[(0, .agg NN4), (1, .agg NN1)] (by simp [Act.eval]) _ (BF6 _)) ?_
  simp only [Act.put, sT, sS, sZ]
  refine wpList_run rfl _ (exec_alloc_agg _ 26 rfl _ (HZ26 _)) ?_
  simp only [Act.put, sT, sS, sZ]
  have lg28_0 := HS25.out.lt (g23) NN4 24 (by simp)
  have lg28_1 := HS25.out.lt (g16) NN1 24 (by simp)
  have lg28_2 := HS25.out.lt (w.heap.size) ZR2 26 (by simp)
  have bg28 := HS25.out.1.size
  have HS27 := Lib.hid (HS25.out.new ZR2 26)
  clear HS25
  generalize w24.alloc (.cells ZR2 26) = w26 at *
  generalize w24.heap.size = g28 at *
  refine wpList_run0 rfl (exec_storeT26 _ (.tmp 9) (.tmp 40) rfl (g28) rfl PP7 IPP7 rfl ZR2 26 (HS27.out.get (g28) ZR2 26 (by simp)) SZZR2) ?_
  simp only [Act.put, sT, sS, sZ]
  have HS30 : Hid (Kt w [(g28, PP7, 26), (g23, NN4, 24), (g16, NN1, 24), (w.heap.size, ZR2, 26)] (w26.setRow (g28) PP7)) := Lib.hid (HS27.out.set (g28) PP7 ZR2 26 (HS27.out.get (g28) ZR2 26 (by simp)) (by omega) (fun p hp => by simp at hp; rcases hp with rfl | rfl | rfl | rfl <;> first | exact .inl rfl | exact .inr ⟨by simp, by simp only; omega⟩))
  clear HS27
  generalize w26.setRow (g28) PP7 = w29 at *
  refine wpList_nil ?_
  have HS31 : Hid (Kt w [(g28, PP7, 26), (w.heap.size, ZR2, 26)] w29) := Lib.hid (HS30.out.sub (fun p hp => by simp at hp; rcases hp with rfl | rfl <;> simp))
  clear HS30
  go_upto_region 10 with fail
  refine wp_region_list ?_
  refine wpList_run rfl (.bool true) (exec_move (.tmp 6) rfl _ rfl _) ?_
  simp only [Act.put, sT, sS, sZ]
  refine wpList_run rfl (.bool false) (exec_notv (.tmp 41) rfl _ rfl false rfl _) ?_
  simp only [Act.put, sT, sS, sZ]
  refine wpList_run rfl (.bool false) (exec_move (.tmp 42) rfl _ rfl _) ?_
  simp only [Act.put, sT, sS, sZ]
  refine wpList_runH (.bool false) (exec_move (.tmp 8) rfl _ rfl _) ?_ (by rfl)
  simp only [Act.put, sT, sS, sZ]
  refine wpList_runH (.bool true) (exec_notv (.tmp 44) rfl _ rfl true rfl _) ?_ (by rfl)
  simp only [Act.put, sT, sS, sZ]
  refine wpList_run rfl (.bool true) (exec_pickf (.tmp 43) (.const (.bool true)) (.tmp 45) rfl rfl _ rfl _) ?_
  simp only [Act.put, sT, sS, sZ]
  refine wpList_run rfl (.bool true) (exec_move (.tmp 46) rfl _ rfl _) ?_
  simp only [Act.put, sT, sS, sZ]
  refine wpList_skipG ?_ (by rfl)
  simp only [Act.put, sT, sS, sZ]
  refine wpList_skipG ?_ (by rfl)
  simp only [Act.put, sT, sS, sZ]
  refine wpList_skipG ?_ (by rfl)
  simp only [Act.put, sT, sS, sZ]
  refine wpList_skipG ?_ (by rfl)
  simp only [Act.put, sT, sS, sZ]
  refine wpList_run rfl (.bool true) (exec_pickt (.tmp 47) (.const (.bool true)) (.tmp 51) rfl rfl _ rfl _) ?_
  simp only [Act.put, sT, sS, sZ]
  refine wpList_nil ?_
  have HS32 : Hid (Kt w [(w.heap.size, ZR2, 26)] w29) := Lib.hid (HS31.out.sub (fun p hp => by simp at hp; subst hp; simp))
  clear HS31
  go_upto_region 11 with fail
  refine wp_region_list ?_
  refine wpList_run rfl (.agg PP9) (exec_buildN _ 26 #[] rfl #[] (by simp [Act.eval]) _ (BF8 _)) ?_
  simp only [Act.put, sT, sS, sZ]
  refine wpList_run0 rfl (exec_storeT26 _ (.tmp 2) (.tmp 53) rfl (w.heap.size) rfl PP9 IPP9 rfl ZR2 26 (HS32.out.get (w.heap.size) ZR2 26 (by simp)) SZZR2) ?_
  simp only [Act.put, sT, sS, sZ]
  have HS34 : Hid (Kt w [(w.heap.size, PP9, 26)] (w29.setRow (w.heap.size) PP9)) := Lib.hid (HS32.out.set (w.heap.size) PP9 ZR2 26 (HS32.out.get (w.heap.size) ZR2 26 (by simp)) (by omega) (fun p hp => by simp at hp; subst hp; exact .inl rfl))
  clear HS32
  generalize w29.setRow (w.heap.size) PP9 = w33 at *
  refine wpList_run rfl (.bool false) (exec_assign (.const (.bool false)) rfl _ rfl _) ?_
  simp only [Act.put, sT, sS, sZ]
  refine wpList_nil ?_
  go_wp2
  exact bodyPost_ret (results_two rfl _ _ _ ⟨w.heap.size, 0, none⟩ rfl _ (loadT26 IPP9 (HS34.out.get (w.heap.size) PP9 26 (by simp)))) rfl ⟨rfl, HS34.out.1⟩
set_option maxRecDepth 100000 in
set_option maxHeartbeats 2000000 in
theorem from_c1 (m : List UInt8) (b c : UInt8) (hm : m.length = 31) (hcb : c.toNat = b.toNat % 128) (han1 : bits .andNot .u8 (b.toNat : Int) 128 = (c.toNat : Int)) (y : Nat) (hy : y = leVal m + c.toNat * 256 ^ 31) (hyp : y < pp) (hth : (rootF (fromU y)).2 = false) (hq : ¬ b.toNat < 128) (w : World) (hT0 : GlobT w) (hG0 : Glob w) :
    Calls Tryd.prog 11 #[.string ⟨(m ++ [b]).toArray⟩] w fun e w' => e = .returned (.tuple #[.agg (num 0 ++ num 0), .bool false]) ∧ Below w.heap.size w w' := by
  have HG := Lib.hid hG0
  have HT := Lib.hid hT0
  have han := Lib.hid han1
  have HF := Lib.hid (from_any ⟨(m ++ [c]).toArray⟩ (by show (m ++ [c]).length ≤ _; rw [len31 c hm]; decide))
  rw [fromF_parts m c hm, ← hy, if_pos hyp] at HF
  have hlen : Hid ((⟨(m ++ [b]).toArray⟩ : ByteArray).size = 32) := Lib.hid (len31 b hm)
  have hnb : Hid (false = !(((32 : Nat) : Int) == 32)) := Lib.hid (by decide)
  have hgb : Hid (decide ((128 : Int) ≤ (b.toNat : Int)) = true) := Lib.hid (by simp; omega)
  have HC5 : Hid (∀ w, GlobT w → Glob w → _) := Lib.hid (beside_any (y) (pp_lt hyp))
  rw [hth] at HC5
  have HC8 := Lib.hid (subf_any (0) ((rootF (fromU (y))).1) (by decide) (pp_lt (rootF_lt _)))
  obtain ⟨NN1, hNN1⟩ : ∃ zz9, Hid (zz9 = num (y)) := ⟨_, Lib.hid rfl⟩
  have INN1 : IsNum NN1 := by rw [hNN1.out]; exact isNum _
  obtain ⟨ZR2, hZR2⟩ : ∃ zz9, Hid (zz9 = (rowOf .u64 8 (fun _ => 0)).toArray) := ⟨_, Lib.hid rfl⟩
  have SZZR2 : ZR2.size = 8 := by rw [hZR2.out]; rfl
  obtain ⟨NN3, hNN3⟩ : ∃ zz9, Hid (zz9 = num (0)) := ⟨_, Lib.hid rfl⟩
  have INN3 : IsNum NN3 := by rw [hNN3.out]; exact isNum _
  obtain ⟨NN4, hNN4⟩ : ∃ zz9, Hid (zz9 = num ((rootF (fromU (y))).1)) := ⟨_, Lib.hid rfl⟩
  have INN4 : IsNum NN4 := by rw [hNN4.out]; exact isNum _
  obtain ⟨NN7, hNN7⟩ : ∃ zz9, Hid (zz9 = num (subF (0) ((rootF (fromU (y))).1))) := ⟨_, Lib.hid rfl⟩
  have INN7 : IsNum NN7 := by rw [hNN7.out]; exact isNum _
  obtain ⟨PP10, hPP10⟩ : ∃ zz9, Hid (zz9 = NN7 ++ NN1) := ⟨_, Lib.hid rfl⟩
  have IPP10 : IsRw 8 PP10 := by rw [hPP10.out]; exact rw_app (isRw4 INN7) (isRw4 INN1)
  have SPP10_0 : Part PP10 0 NN7 := by rw [hPP10.out]; exact part_left 0 (part_all NN7) NN1
  have SPP10_4 : Part PP10 4 NN1 := by rw [hPP10.out]; exact part_right (NN7) NN1 4 (by simp [INN7.size])
  obtain ⟨PP12, hPP12⟩ : ∃ zz9, Hid (zz9 = NN3 ++ NN3) := ⟨_, Lib.hid rfl⟩
  have IPP12 : IsRw 8 PP12 := by rw [hPP12.out]; exact rw_app (isRw4 INN3) (isRw4 INN3)
  have SPP12_0 : Part PP12 0 NN3 := by rw [hPP12.out]; exact part_left 0 (part_all NN3) NN3
  have SPP12_4 : Part PP12 4 NN3 := by rw [hPP12.out]; exact part_right (NN3) NN3 4 (by simp [INN3.size])
  have HZ26 : ∀ w, (zeroValue 26).run Tryd.prog w = .ok (.agg ZR2) w := by rw [hZR2.out]; exact zeroT26
  have HZ24 : ∀ w, (zeroValue 24).run Tryd.prog w = .ok (.agg NN3) w := by rw [hNN3.out]; exact zero_run
  have SZNN3 := INN3.size
  have BF6 : ∀ w, (Instr.build 24 #[]).run Tryd.prog w = .ok (.agg NN3) w := by rw [hNN3.out]; exact build0_run
  have BF9 : ∀ w, (Instr.build 26 #[(0, .agg NN7), (1, .agg NN1)]).run Tryd.prog w = .ok (.agg PP10) w := by rw [hPP10.out]; exact bp01 INN7 INN1
  have BF11 : ∀ w, (Instr.build 26 #[]).run Tryd.prog w = .ok (.agg PP12) w := by have q := bp_none; rw [← hNN3.out] at q; rw [hPP12.out]; exact q
  try simp only [← hNN1.out, ← hNN3.out, ← hNN4.out, ← hNN7.out] at HC5 HC8 HF ⊢
  try simp only [← hZR2.out, ← hPP10.out, ← hPP12.out] at HC5 HC8 HF ⊢
  clear hNN1 hZR2 hNN3 hNN4 hNN7 hPP10 hPP12 hcb han1 hy hyp hG0 hT0 hth hq
  go_enter Tryd.func11, Tryd.ntmps11
  have HS : Hid (Kt w [] w) := Lib.hid (Kt.nil w)
  go_upto_region 0 with fail
  refine wp_region_list ?_
  refine wpList_run rfl _ (exec_alloc_agg _ 26 rfl _ (HZ26 _)) ?_
  simp only [Act.put, sT, sS, sZ]
  have bg3 := HS.out.1.size
  have HS2 := Lib.hid (HS.out.new ZR2 26)
  clear HS
  generalize w.alloc (.cells ZR2 26) = w1 at *
  refine wpList_run rfl (.bool false) (exec_assign (.const (.bool false)) rfl _ rfl _) ?_
  simp only [Act.put, sT, sS, sZ]
  refine wpList_nil ?_
  go_upto_region 1 with fail
  refine wp_region_list ?_
  refine wpList_run rfl (.string ⟨(m ++ [b]).toArray⟩) (exec_move (.tmp 0) rfl _ rfl _) ?_
  simp only [Act.put, sT, sS, sZ]
  refine wpList_run rfl (.int .i64 (32 : Int)) (exec_len9 (.tmp 10) rfl ⟨(m ++ [b]).toArray⟩ 32 hlen.out rfl _) ?_
  simp only [Act.put, sT, sS, sZ]
  refine wpList_run rfl (.bool false) (exec_neq32 (.tmp 11) rfl rfl 32 false hnb.out rfl _) ?_
  simp only [Act.put, sT, sS, sZ]
  refine wpList_nil ?_
  go_upto_region 3 with fail
  refine wp_region_list ?_
  refine wpList_run rfl (.string ⟨(m ++ [b]).toArray⟩) (exec_move (.tmp 0) rfl _ rfl _) ?_
  simp only [Act.put, sT, sS, sZ]
  obtain ⟨cap8, w4, hcv, hbf, hbl, hlt⟩ := conv_buf w1 (m ++ [b]) (len31 b hm)
  refine wpList_run rfl _ (exec_convG 9 44 (.tmp 14) rfl _ rfl _ _ _ hcv) ?_
  simp only [Act.put, sT, sS, sZ]
  have lgb6_0 := HS2.out.lt (w.heap.size) ZR2 26 (by simp)
  have bgb6 := HS2.out.1.size
  have HS5 := Lib.hid (HS2.out.below hbl)
  have HB7 := Lib.hid hbf
  clear HS2 hcv hbf hbl
  generalize w1.heap.size = gb6 at *
  refine wpList_run rfl (.slice (some ⟨gb6, 0, none⟩) 32 cap8) (exec_assign (.tmp 15) rfl _ rfl _) ?_
  simp only [Act.put, sT, sS, sZ]
  refine wpList_nil ?_
  go_upto_region 4 with fail
  refine wp_region_list ?_
  refine wpList_run rfl (.slice (some ⟨gb6, 0, none⟩) 32 cap8) (exec_move (.tmp 4) rfl _ rfl _) ?_
  simp only [Act.put, sT, sS, sZ]
  refine wpList_run rfl (.pointer (some ⟨gb6, 31, none⟩)) (exec_index44 (.tmp 16) rfl rfl (gb6) cap8 rfl _) ?_
  simp only [Act.put, sT, sS, sZ]
  refine wpList_run rfl (.int .u8 (b.toNat : Int)) (exec_load_one _ 5 (.tmp 17) rfl ⟨gb6, 31, none⟩ rfl _ (HB7.out.cell31 hm) _ Tryd.underlying5 rfl) ?_
  simp only [Act.put, sT, sS, sZ]
  refine wpList_run rfl (.int .u8 (c.toNat : Int)) (exec_andNot128 (.tmp 18) rfl rfl b c han.out rfl _) ?_
  simp only [Act.put, sT, sS, sZ]
  refine wpList_run rfl (.pointer (some ⟨gb6, 31, none⟩)) (exec_index44 (.tmp 16) rfl rfl (gb6) cap8 rfl _) ?_
  simp only [Act.put, sT, sS, sZ]
  refine wpList_run0 rfl (exec_store31 _ (.tmp 20) (.tmp 19) rfl (gb6) rfl c rfl HB7.out hm) ?_
  simp only [Act.put, sT, sS, sZ]
  have HS10 := Lib.hid (HS5.out.cellOther (gb6) 31 (.int .u8 (c.toNat : Int)) (by omega) (fun p hp => by simp at hp; subst hp; simp only; omega))
  have HB11 := Lib.hid (HB7.out.set hm c)
  clear HS5 HB7
  generalize w4.setCell ⟨gb6, 31, none⟩ (.int .u8 (c.toNat : Int)) = w9 at *
  refine wpList_nil ?_
  go_upto_region 5 with fail
  refine wp_region_list ?_
  refine wpList_run rfl (.slice (some ⟨gb6, 0, none⟩) 32 cap8) (exec_move (.tmp 4) rfl _ rfl _) ?_
  simp only [Act.put, sT, sS, sZ]
  refine wpList_run rfl (.string ⟨(m ++ [c]).toArray⟩) (exec_convG 44 9 (.tmp 22) rfl _ rfl _ _ _ (HB11.out.str (len31 c hm))) ?_
  simp only [Act.put, sT, sS, sZ]
  refine wpList_callF rfl 28 #[.tmp 23] #[9] rfl #[.string ⟨(m ++ [c]).toArray⟩] en28 (HF.out _) ?_
  rintro v w12 ⟨he, hb⟩
  cases he
  have HS13 := Lib.hid (HS10.out.below hb)
  clear hb HS10
  simp only [Act.put, sT, sS, sZ]
  refine wpList_run rfl (.tuple #[.agg NN1, .bool true]) (exec_move (.tmp 24) rfl _ rfl _) ?_
  simp only [Act.put, sT, sS, sZ]
  refine wpList_run rfl (.agg NN1) (exec_extract (.tmp 21) 0 rfl _ _ rfl rfl _) ?_
  simp only [Act.put, sT, sS, sZ]
  refine wpList_run rfl (.bool true) (exec_extract (.tmp 21) 1 rfl _ _ rfl rfl _) ?_
  simp only [Act.put, sT, sS, sZ]
  refine wpList_run rfl _ (exec_alloc_agg _ 24 rfl _ (HZ24 _)) ?_
  simp only [Act.put, sT, sS, sZ]
  have lg16_0 := HS13.out.lt (w.heap.size) ZR2 26 (by simp)
  have bg16 := HS13.out.1.size
  have HS15 := Lib.hid (HS13.out.new NN3 24)
  clear HS13
  generalize w12.alloc (.cells NN3 24) = w14 at *
  generalize w12.heap.size = g16 at *
  refine wpList_run0 rfl (exec_store24 _ (.tmp 5) (.tmp 25) rfl (g16) rfl NN1 INN1 rfl NN3 24 (HS15.out.get (g16) NN3 24 (by simp)) SZNN3) ?_
  simp only [Act.put, sT, sS, sZ]
  have HS18 : Hid (Kt w [(g16, NN1, 24), (w.heap.size, ZR2, 26)] (w14.setRow (g16) NN1)) := Lib.hid (HS15.out.set (g16) NN1 NN3 24 (HS15.out.get (g16) NN3 24 (by simp)) (by omega) (fun p hp => by simp at hp; rcases hp with rfl | rfl <;> first | exact .inl rfl | exact .inr ⟨by simp, by simp only; omega⟩))
  clear HS15
  generalize w14.setRow (g16) NN1 = w17 at *
  refine wpList_run rfl (.bool true) (exec_assign (.tmp 26) rfl _ rfl _) ?_
  simp only [Act.put, sT, sS, sZ]
  refine wpList_nil ?_
  go_upto_region 6 with fail
  refine wp_region_list ?_
  refine wpList_run rfl (.agg NN1) (exec_load_of _ 24 (.tmp 5) rfl ⟨g16, 0, none⟩ rfl _ (loadA24 INN1 (HS18.out.get (g16) NN1 24 (by simp)))) ?_
  simp only [Act.put, sT, sS, sZ]
  refine wpList_callF rfl 29 #[.tmp 28] #[24] rfl #[.agg NN1] en29 (HC5.out _ (HT.out.below HS18.out.1) (HG.out.below HS18.out.1)) ?_
  rintro v w19 ⟨he, hb⟩
  cases he
  have HS20 := Lib.hid (HS18.out.below hb)
  clear hb HS18
  simp only [Act.put, sT, sS, sZ]
  refine wpList_run rfl (.tuple #[.agg NN4, .bool false]) (exec_move (.tmp 29) rfl _ rfl _) ?_
  simp only [Act.put, sT, sS, sZ]
  refine wpList_run rfl (.agg NN4) (exec_extract (.tmp 27) 0 rfl _ _ rfl rfl _) ?_
  simp only [Act.put, sT, sS, sZ]
  refine wpList_run rfl (.bool false) (exec_extract (.tmp 27) 1 rfl _ _ rfl rfl _) ?_
  simp only [Act.put, sT, sS, sZ]
  refine wpList_run rfl _ (exec_alloc_agg _ 24 rfl _ (HZ24 _)) ?_
  simp only [Act.put, sT, sS, sZ]
  have lg23_0 := HS20.out.lt (g16) NN1 24 (by simp)
  have lg23_1 := HS20.out.lt (w.heap.size) ZR2 26 (by simp)
  have bg23 := HS20.out.1.size
  have HS22 := Lib.hid (HS20.out.new NN3 24)
  clear HS20
  generalize w19.alloc (.cells NN3 24) = w21 at *
  generalize w19.heap.size = g23 at *
  refine wpList_run0 rfl (exec_store24 _ (.tmp 7) (.tmp 30) rfl (g23) rfl NN4 INN4 rfl NN3 24 (HS22.out.get (g23) NN3 24 (by simp)) SZNN3) ?_
  simp only [Act.put, sT, sS, sZ]
  have HS25 : Hid (Kt w [(g23, NN4, 24), (g16, NN1, 24), (w.heap.size, ZR2, 26)] (w21.setRow (g23) NN4)) := Lib.hid (HS22.out.set (g23) NN4 NN3 24 (HS22.out.get (g23) NN3 24 (by simp)) (by omega) (fun p hp => by simp at hp; rcases hp with rfl | rfl | rfl <;> first | exact .inl rfl | exact .inr ⟨by simp, by simp only; omega⟩))
  clear HS22
  generalize w21.setRow (g23) NN4 = w24 at *
  refine wpList_run rfl (.bool false) (exec_assign (.tmp 31) rfl _ rfl _) ?_
  simp only [Act.put, sT, sS, sZ]
  refine wpList_nil ?_
  go_upto_region 7 with fail
  refine wp_region_list ?_
  refine wpList_run rfl (.string ⟨(m ++ [b]).toArray⟩) (exec_move (.tmp 0) rfl _ rfl _) ?_
  simp only [Act.put, sT, sS, sZ]
  refine wpList_run rfl (.int .u8 (b.toNat : Int)) (exec_index31 (.tmp 32) rfl rfl m b hm rfl _) ?_
  simp only [Act.put, sT, sS, sZ]
  refine wpList_run rfl (.bool true) (exec_geq128 (.tmp 33) rfl rfl b.toNat true hgb.out rfl _) ?_
  simp only [Act.put, sT, sS, sZ]
  refine wpList_nil ?_
  go_upto_region 8 with fail
  refine wp_region_list ?_
  refine wpList_run rfl (.agg NN3) (exec_buildN _ 24 #[] rfl #[] (by simp [Act.eval]) _ (BF6 _)) ?_
  simp only [Act.put, sT, sS, sZ]
  refine wpList_run rfl (.agg NN4) (exec_load_of _ 24 (.tmp 7) rfl ⟨g23, 0, none⟩ rfl _ (loadA24 INN4 (HS25.out.get (g23) NN4 24 (by simp)))) ?_
  simp only [Act.put, sT, sS, sZ]
  refine wpList_callF rfl 30 #[.tmp 35, .tmp 36] #[24, 24] rfl #[.agg NN3, .agg NN4] en30 (HC8.out _) ?_
  rintro v w26 ⟨he, hb⟩
  cases he
  have HS27 := Lib.hid (HS25.out.below hb)
  clear hb HS25
  simp only [Act.put, sT, sS, sZ]
  refine wpList_run0 rfl (exec_store24 _ (.tmp 7) (.tmp 37) rfl (g23) rfl NN7 INN7 rfl NN4 24 (HS27.out.get (g23) NN4 24 (by simp)) INN4.size) ?_
  simp only [Act.put, sT, sS, sZ]
  have HS29 : Hid (Kt w [(g23, NN7, 24), (g16, NN1, 24), (w.heap.size, ZR2, 26)] (w26.setRow (g23) NN7)) := Lib.hid (HS27.out.set (g23) NN7 NN4 24 (HS27.out.get (g23) NN4 24 (by simp)) (by omega) (fun p hp => by simp at hp; rcases hp with rfl | rfl | rfl <;> first | exact .inl rfl | exact .inr ⟨by simp, by simp only; omega⟩))
  clear HS27
  generalize w26.setRow (g23) NN7 = w28 at *
  refine wpList_nil ?_
  go_upto_region 9 with fail
  refine wp_region_list ?_
  refine wpList_run rfl (.agg NN7) (exec_load_of _ 24 (.tmp 7) rfl ⟨g23, 0, none⟩ rfl _ (loadA24 INN7 (HS29.out.get (g23) NN7 24 (by simp)))) ?_
  simp only [Act.put, sT, sS, sZ]
  refine wpList_run rfl (.agg NN1) (exec_load_of _ 24 (.tmp 5) rfl ⟨g16, 0, none⟩ rfl _ (loadA24 INN1 (HS29.out.get (g16) NN1 24 (by simp)))) ?_
  simp only [Act.put, sT, sS, sZ]
  refine wpList_run rfl (.agg PP10) (exec_buildN _ 26 #[(0, .tmp 38), (1, .tmp 39)] rfl #[(0, .agg NN7), (1, .agg NN1)] (by simp [Act.eval]) _ (BF9 _)) ?_
  simp only [Act.put, sT, sS, sZ]
  refine wpList_run rfl _ (exec_alloc_agg _ 26 rfl _ (HZ26 _)) ?_
  simp only [Act.put, sT, sS, sZ]
  have lg32_0 := HS29.out.lt (g23) NN7 24 (by simp)
  have lg32_1 := HS29.out.lt (g16) NN1 24 (by simp)
  have lg32_2 := HS29.out.lt (w.heap.size) ZR2 26 (by simp)
  have bg32 := HS29.out.1.size
  have HS31 := Lib.hid (HS29.out.new ZR2 26)
  clear HS29
  generalize w28.alloc (.cells ZR2 26) = w30 at *
  generalize w28.heap.size = g32 at *
  refine wpList_run0 rfl (exec_storeT26 _ (.tmp 9) (.tmp 40) rfl (g32) rfl PP10 IPP10 rfl ZR2 26 (HS31.out.get (g32) ZR2 26 (by simp)) SZZR2) ?_
  simp only [Act.put, sT, sS, sZ]
  have HS34 : Hid (Kt w [(g32, PP10, 26), (g23, NN7, 24), (g16, NN1, 24), (w.heap.size, ZR2, 26)] (w30.setRow (g32) PP10)) := Lib.hid (HS31.out.set (g32) PP10 ZR2 26 (HS31.out.get (g32) ZR2 26 (by simp)) (by omega) (fun p hp => by simp at hp; rcases hp with rfl | rfl | rfl | rfl <;> first | exact .inl rfl | exact .inr ⟨by simp, by simp only; omega⟩))
  clear HS31
  generalize w30.setRow (g32) PP10 = w33 at *
  refine wpList_nil ?_
  have HS35 : Hid (Kt w [(g32, PP10, 26), (w.heap.size, ZR2, 26)] w33) := Lib.hid (HS34.out.sub (fun p hp => by simp at hp; rcases hp with rfl | rfl <;> simp))
  clear HS34
  go_upto_region 10 with fail
  refine wp_region_list ?_
  refine wpList_run rfl (.bool true) (exec_move (.tmp 6) rfl _ rfl _) ?_
  simp only [Act.put, sT, sS, sZ]
  refine wpList_run rfl (.bool false) (exec_notv (.tmp 41) rfl _ rfl false rfl _) ?_
  simp only [Act.put, sT, sS, sZ]
  refine wpList_run rfl (.bool false) (exec_move (.tmp 42) rfl _ rfl _) ?_
  simp only [Act.put, sT, sS, sZ]
  refine wpList_runH (.bool false) (exec_move (.tmp 8) rfl _ rfl _) ?_ (by rfl)
  simp only [Act.put, sT, sS, sZ]
  refine wpList_runH (.bool true) (exec_notv (.tmp 44) rfl _ rfl true rfl _) ?_ (by rfl)
  simp only [Act.put, sT, sS, sZ]
  refine wpList_run rfl (.bool true) (exec_pickf (.tmp 43) (.const (.bool true)) (.tmp 45) rfl rfl _ rfl _) ?_
  simp only [Act.put, sT, sS, sZ]
  refine wpList_run rfl (.bool true) (exec_move (.tmp 46) rfl _ rfl _) ?_
  simp only [Act.put, sT, sS, sZ]
  refine wpList_skipG ?_ (by rfl)
  simp only [Act.put, sT, sS, sZ]
  refine wpList_skipG ?_ (by rfl)
  simp only [Act.put, sT, sS, sZ]
  refine wpList_skipG ?_ (by rfl)
  simp only [Act.put, sT, sS, sZ]
  refine wpList_skipG ?_ (by rfl)
  simp only [Act.put, sT, sS, sZ]
  refine wpList_run rfl (.bool true) (exec_pickt (.tmp 47) (.const (.bool true)) (.tmp 51) rfl rfl _ rfl _) ?_
  simp only [Act.put, sT, sS, sZ]
  refine wpList_nil ?_
  have HS36 : Hid (Kt w [(w.heap.size, ZR2, 26)] w33) := Lib.hid (HS35.out.sub (fun p hp => by simp at hp; subst hp; simp))
  clear HS35
  go_upto_region 11 with fail
  refine wp_region_list ?_
  refine wpList_run rfl (.agg PP12) (exec_buildN _ 26 #[] rfl #[] (by simp [Act.eval]) _ (BF11 _)) ?_
  simp only [Act.put, sT, sS, sZ]
  refine wpList_run0 rfl (exec_storeT26 _ (.tmp 2) (.tmp 53) rfl (w.heap.size) rfl PP12 IPP12 rfl ZR2 26 (HS36.out.get (w.heap.size) ZR2 26 (by simp)) SZZR2) ?_
  simp only [Act.put, sT, sS, sZ]
  have HS38 : Hid (Kt w [(w.heap.size, PP12, 26)] (w33.setRow (w.heap.size) PP12)) := Lib.hid (HS36.out.set (w.heap.size) PP12 ZR2 26 (HS36.out.get (w.heap.size) ZR2 26 (by simp)) (by omega) (fun p hp => by simp at hp; subst hp; exact .inl rfl))
  clear HS36
  generalize w33.setRow (w.heap.size) PP12 = w37 at *
  refine wpList_run rfl (.bool false) (exec_assign (.const (.bool false)) rfl _ rfl _) ?_
  simp only [Act.put, sT, sS, sZ]
  refine wpList_nil ?_
  go_wp2
  exact bodyPost_ret (results_two rfl _ _ _ ⟨w.heap.size, 0, none⟩ rfl _ (loadT26 IPP12 (HS38.out.get (w.heap.size) PP12 26 (by simp)))) rfl ⟨rfl, HS38.out.1⟩
end Go.Proofs.YtgbliacncahooaaDoor
