/- From of package point: of texts whose Y has an X. No condition but what each names, and that the numbers stand in memory. -/
import Derived.Test.YtgbliacncahooaaDoorGBeside
import Derived.Test.YtgbliacncahooaaDoorGBytesP
namespace Go.Proofs.YtgbliacncahooaaDoor
open Go.RowKit Go.Shelf
set_option linter.unusedVariables false
set_option linter.unusedSimpArgs false
theorem exec_ne9_same {ρ : Operand → Value} {o : Oper} (x y : Operand) (ho : o.op = .binOp .neq 9 x y 9) (s : ByteArray) (hx : ρ x = .string s) (hy : ρ y = .string s) (w : World) : (execOp ρ o).run Tryd.prog w = .ok (.value (.bool false)) w := by
  unfold execOp
  rw [ho]
  simp only [hx, hy]
  go_simp
theorem exec_ne9_diff {ρ : Operand → Value} {o : Oper} (x y : Operand) (ho : o.op = .binOp .neq 9 x y 9) (s t : ByteArray) (hne : s ≠ t) (hx : ρ x = .string s) (hy : ρ y = .string t) (w : World) : (execOp ρ o).run Tryd.prog w = .ok (.value (.bool true)) w := by
  unfold execOp
  rw [ho]
  simp only [hx, hy]
  go_simp
  intro h
  rw [ByteArray.toList_eq, ByteArray.toList_eq] at h
  exact hne (ByteArray.ext (Array.toList_inj.1 h))
theorem text_ne {m : List UInt8} {b c : UInt8} (h : b.toNat ≠ c.toNat) : (⟨(m ++ [c]).toArray⟩ : ByteArray) ≠ ⟨(m ++ [b]).toArray⟩ := by
  intro he
  have h1 : (m ++ [c]) = (m ++ [b]) := by
    have := congrArg (fun s : ByteArray => s.data.toList) he
    simpa using this
  have h2 := List.append_cancel_left h1
  simp at h2
  exact h (by rw [h2])
theorem fromF_parts (m : List UInt8) (c : UInt8) (hm : m.length = 31) : fromF ((⟨(m ++ [c]).toArray⟩ : ByteArray).data.toList) = if leVal m + c.toNat * 256 ^ 31 < pp then (leVal m + c.toNat * 256 ^ 31, true) else (0, false) := by
  show fromF (m ++ [c]) = _
  unfold fromF
  rw [leVal_snoc, hm, len31 c hm]
  simp
set_option maxRecDepth 100000 in
set_option maxHeartbeats 2000000 in
theorem from_d0 (m : List UInt8) (b c : UInt8) (hm : m.length = 31) (hcb : c.toNat = b.toNat % 128) (han1 : bits .andNot .u8 (b.toNat : Int) 128 = (c.toNat : Int)) (y : Nat) (hy : y = leVal m + c.toNat * 256 ^ 31) (hyp : y < pp) (hth : (rootF (fromU y)).2 = true) (hq : b.toNat < 128) (w : World) (hT0 : GlobT w) (hG0 : Glob w) :
    Calls Tryd.prog 11 #[.string ⟨(m ++ [b]).toArray⟩] w fun e w' => e = .returned (.tuple #[.agg (num ((rootF (fromU y)).1) ++ num y), .bool true]) ∧ Below w.heap.size w w' := by
  have HG := Lib.hid hG0
  have HT := Lib.hid hT0
  have han := Lib.hid han1
  have HF := Lib.hid (from_any ⟨(m ++ [c]).toArray⟩ (by show (m ++ [c]).length ≤ _; rw [len31 c hm]; decide))
  rw [fromF_parts m c hm, ← hy, if_pos hyp] at HF
  have hlen : Hid ((⟨(m ++ [b]).toArray⟩ : ByteArray).size = 32) := Lib.hid (len31 b hm)
  have hnb : Hid (false = !(((32 : Nat) : Int) == 32)) := Lib.hid (by decide)
  have hgb : Hid (decide ((128 : Int) ≤ (b.toNat : Int)) = false) := Lib.hid (by simp; omega)
  have hE : bytesN (encP ((rootF (fromU (y))).1, y)) = m ++ [b] := by
    rw [enc_even (rootF_even _), hy, bytes_join m c hm, show c = b from UInt8.toNat_inj.1 (by omega)]
  have HC5 : Hid (∀ w, GlobT w → Glob w → _) := Lib.hid (beside_any (y) (pp_lt hyp))
  rw [hth] at HC5
  have HC8 := Lib.hid (bytes_pt ((rootF (fromU (y))).1) (y) (pp_lt (rootF_lt _)) hyp)
  rw [hE] at HC8
  obtain ⟨NN1, hNN1⟩ : ∃ zz9, Hid (zz9 = num (y)) := ⟨_, Lib.hid rfl⟩
  have INN1 : IsNum NN1 := by rw [hNN1.out]; exact isNum _
  obtain ⟨ZR2, hZR2⟩ : ∃ zz9, Hid (zz9 = (rowOf .u64 8 (fun _ => 0)).toArray) := ⟨_, Lib.hid rfl⟩
  have SZZR2 : ZR2.size = 8 := by rw [hZR2.out]; rfl
  obtain ⟨NN3, hNN3⟩ : ∃ zz9, Hid (zz9 = num (0)) := ⟨_, Lib.hid rfl⟩
  have INN3 : IsNum NN3 := by rw [hNN3.out]; exact isNum _
  obtain ⟨NN4, hNN4⟩ : ∃ zz9, Hid (zz9 = num ((rootF (fromU (y))).1)) := ⟨_, Lib.hid rfl⟩
  have INN4 : IsNum NN4 := by rw [hNN4.out]; exact isNum _
  obtain ⟨PP7, hPP7⟩ : ∃ zz9, Hid (zz9 = NN4 ++ NN1) := ⟨_, Lib.hid rfl⟩
  have IPP7 : IsRw 8 PP7 := by rw [hPP7.out]; exact rw_app (isRw4 INN4) (isRw4 INN1)
  have SPP7_0 : Part PP7 0 NN4 := by rw [hPP7.out]; exact part_left 0 (part_all NN4) NN1
  have SPP7_4 : Part PP7 4 NN1 := by rw [hPP7.out]; exact part_right (NN4) NN1 4 (by simp [INN4.size])
  have HZ26 : ∀ w, (zeroValue 26).run Tryd.prog w = .ok (.agg ZR2) w := by rw [hZR2.out]; exact zeroT26
  have HZ24 : ∀ w, (zeroValue 24).run Tryd.prog w = .ok (.agg NN3) w := by rw [hNN3.out]; exact zero_run
  have SZNN3 := INN3.size
  have BF6 : ∀ w, (Instr.build 26 #[(0, .agg NN4), (1, .agg NN1)]).run Tryd.prog w = .ok (.agg PP7) w := by rw [hPP7.out]; exact bp01 INN4 INN1
  try simp only [← hNN1.out, ← hNN3.out, ← hNN4.out] at HC5 HC8 HF ⊢
  try simp only [← hZR2.out, ← hPP7.out] at HC5 HC8 HF ⊢
  clear hNN1 hZR2 hNN3 hNN4 hPP7 hcb han1 hy hyp hG0 hT0 hth hE hq
  go_enter Tryd.func11, Tryd.ntmps11
  have HS : Hid (Kt w [] w) := Lib.hid (Kt.nil w)
  go_upto_region 0 with fail
  refine wp_region_list ?_
  refine wpList_run rfl _ (exec_alloc_agg _ 26 rfl _ (HZ26 _)) ?_
  simp only [Act.put, sT, sS, sZ]
  have bg3 := HS.out.1.size
  have HS2 := Lib.hid (HS.out.new ZR2 26)
  clear HS
  generalize w.alloc (.cells ZR2 26) = w1 at *
  refine wpList_run rfl (.bool false) (exec_assign (.const (.bool false)) rfl _ rfl _) ?_
  simp only [Act.put, sT, sS, sZ]
  refine wpList_nil ?_
  go_upto_region 1 with fail
  refine wp_region_list ?_
  refine wpList_run rfl (.string ⟨(m ++ [b]).toArray⟩) (exec_move (.tmp 0) rfl _ rfl _) ?_
  simp only [Act.put, sT, sS, sZ]
  refine wpList_run rfl (.int .i64 (32 : Int)) (exec_len9 (.tmp 10) rfl ⟨(m ++ [b]).toArray⟩ 32 hlen.out rfl _) ?_
  simp only [Act.put, sT, sS, sZ]
  refine wpList_run rfl (.bool false) (exec_neq32 (.tmp 11) rfl rfl 32 false hnb.out rfl _) ?_
  simp only [Act.put, sT, sS, sZ]
  refine wpList_nil ?_
  go_upto_region 3 with fail
  refine wp_region_list ?_
  refine wpList_run rfl (.string ⟨(m ++ [b]).toArray⟩) (exec_move (.tmp 0) rfl _ rfl _) ?_
  simp only [Act.put, sT, sS, sZ]
  obtain ⟨cap8, w4, hcv, hbf, hbl, hlt⟩ := conv_buf w1 (m ++ [b]) (len31 b hm)
  refine wpList_run rfl _ (exec_convG 9 44 (.tmp 14) rfl _ rfl _ _ _ hcv) ?_
  simp only [Act.put, sT, sS, sZ]
  have lgb6_0 := HS2.out.lt (w.heap.size) ZR2 26 (by simp)
  have bgb6 := HS2.out.1.size
  have HS5 := Lib.hid (HS2.out.below hbl)
  have HB7 := Lib.hid hbf
  clear HS2 hcv hbf hbl
  generalize w1.heap.size = gb6 at *
  refine wpList_run rfl (.slice (some ⟨gb6, 0, none⟩) 32 cap8) (exec_assign (.tmp 15) rfl _ rfl _) ?_
  simp only [Act.put, sT, sS, sZ]
  refine wpList_nil ?_
  go_upto_region 4 with fail
  refine wp_region_list ?_
  refine wpList_run rfl (.slice (some ⟨gb6, 0, none⟩) 32 cap8) (exec_move (.tmp 4) rfl _ rfl _) ?_
  simp only [Act.put, sT, sS, sZ]
  refine wpList_run rfl (.pointer (some ⟨gb6, 31, none⟩)) (exec_index44 (.tmp 16) rfl rfl (gb6) cap8 rfl _) ?_
  simp only [Act.put, sT, sS, sZ]
  refine wpList_run rfl (.int .u8 (b.toNat : Int)) (exec_load_one _ 5 (.tmp 17) rfl ⟨gb6, 31, none⟩ rfl _ (HB7.out.cell31 hm) _ Tryd.underlying5 rfl) ?_
  simp only [Act.put, sT, sS, sZ]
  refine wpList_run rfl (.int .u8 (c.toNat : Int)) (exec_andNot128 (.tmp 18) rfl rfl b c han.out rfl _) ?_
  simp only [Act.put, sT, sS, sZ]
  refine wpList_run rfl (.pointer (some ⟨gb6, 31, none⟩)) (exec_index44 (.tmp 16) rfl rfl (gb6) cap8 rfl _) ?_
  simp only [Act.put, sT, sS, sZ]
  refine wpList_run0 rfl (exec_store31 _ (.tmp 20) (.tmp 19) rfl (gb6) rfl c rfl HB7.out hm) ?_
  simp only [Act.put, sT, sS, sZ]
  have HS10 := Lib.hid (HS5.out.cellOther (gb6) 31 (.int .u8 (c.toNat : Int)) (by omega) (fun p hp => by simp at hp; subst hp; simp only; omega))
  have HB11 := Lib.hid (HB7.out.set hm c)
  clear HS5 HB7
  generalize w4.setCell ⟨gb6, 31, none⟩ (.int .u8 (c.toNat : Int)) = w9 at *
  refine wpList_nil ?_
  go_upto_region 5 with fail
  refine wp_region_list ?_
  refine wpList_run rfl (.slice (some ⟨gb6, 0, none⟩) 32 cap8) (exec_move (.tmp 4) rfl _ rfl _) ?_
  simp only [Act.put, sT, sS, sZ]
  refine wpList_run rfl (.string ⟨(m ++ [c]).toArray⟩) (exec_convG 44 9 (.tmp 22) rfl _ rfl _ _ _ (HB11.out.str (len31 c hm))) ?_
  simp only [Act.put, sT, sS, sZ]
  refine wpList_callF rfl 28 #[.tmp 23] #[9] rfl #[.string ⟨(m ++ [c]).toArray⟩] en28 (HF.out _) ?_
  rintro v w12 ⟨he, hb⟩
  cases he
  have HS13 := Lib.hid (HS10.out.below hb)
  clear hb HS10
  simp only [Act.put, sT, sS, sZ]
  refine wpList_run rfl (.tuple #[.agg NN1, .bool true]) (exec_move (.tmp 24) rfl _ rfl _) ?_
  simp only [Act.put, sT, sS, sZ]
  refine wpList_run rfl (.agg NN1) (exec_extract (.tmp 21) 0 rfl _ _ rfl rfl _) ?_
  simp only [Act.put, sT, sS, sZ]
  refine wpList_run rfl (.bool true) (exec_extract (.tmp 21) 1 rfl _ _ rfl rfl _) ?_
  simp only [Act.put, sT, sS, sZ]
  refine wpList_run rfl _ (exec_alloc_agg _ 24 rfl _ (HZ24 _)) ?_
  simp only [Act.put, sT, sS, sZ]
  have lg16_0 := HS13.out.lt (w.heap.size) ZR2 26 (by simp)
  have bg16 := HS13.out.1.size
  have HS15 := Lib.hid (HS13.out.new NN3 24)
  clear HS13
  generalize w12.alloc (.cells NN3 24) = w14 at *
  generalize w12.heap.size = g16 at *
  refine wpList_run0 rfl (exec_store24 _ (.tmp 5) (.tmp 25) rfl (g16) rfl NN1 INN1 rfl NN3 24 (HS15.out.get (g16) NN3 24 (by simp)) SZNN3) ?_
  simp only [Act.put, sT, sS, sZ]
  have HS18 : Hid (Kt w [(g16, NN1, 24), (w.heap.size, ZR2, 26)] (w14.setRow (g16) NN1)) := Lib.hid (HS15.out.set (g16) NN1 NN3 24 (HS15.out.get (g16) NN3 24 (by simp)) (by omega) (fun p hp => by simp at hp; rcases hp with rfl | rfl <;> first | exact .inl rfl | exact .inr ⟨by simp, by simp only; omega⟩))
  clear HS15
  generalize w14.setRow (g16) NN1 = w17 at *
  refine wpList_run rfl (.bool true) (exec_assign (.tmp 26) rfl _ rfl _) ?_
  simp only [Act.put, sT, sS, sZ]
  refine wpList_nil ?_
  go_upto_region 6 with fail
  refine wp_region_list ?_
  refine wpList_run rfl (.agg NN1) (exec_load_of _ 24 (.tmp 5) rfl ⟨g16, 0, none⟩ rfl _ (loadA24 INN1 (HS18.out.get (g16) NN1 24 (by simp)))) ?_
  simp only [Act.put, sT, sS, sZ]
  refine wpList_callF rfl 29 #[.tmp 28] #[24] rfl #[.agg NN1] en29 (HC5.out _ (HT.out.below HS18.out.1) (HG.out.below HS18.out.1)) ?_
  rintro v w19 ⟨he, hb⟩
  cases he
  have HS20 := Lib.hid (HS18.out.below hb)
  clear hb HS18
  simp only [Act.put, sT, sS, sZ]
  refine wpList_run rfl (.tuple #[.agg NN4, .bool true]) (exec_move (.tmp 29) rfl _ rfl _) ?_
  simp only [Act.put, sT, sS, sZ]
  refine wpList_run rfl (.agg NN4) (exec_extract (.tmp 27) 0 rfl _ _ rfl rfl _) ?_
  simp only [Act.put, sT, sS, sZ]
  refine wpList_run rfl (.bool true) (exec_extract (.tmp 27) 1 rfl _ _ rfl rfl _) ?_
  simp only [Act.put, sT, sS, sZ]
  refine wpList_run rfl _ (exec_alloc_agg _ 24 rfl _ (HZ24 _)) ?_
  simp only [Act.put, sT, sS, sZ]
  have lg23_0 := HS20.out.lt (g16) NN1 24 (by simp)
  have lg23_1 := HS20.out.lt (w.heap.size) ZR2 26 (by simp)
  have bg23 := HS20.out.1.size
  have HS22 := Lib.hid (HS20.out.new NN3 24)
  clear HS20
  generalize w19.alloc (.cells NN3 24) = w21 at *
  generalize w19.heap.size = g23 at *
  refine wpList_run0 rfl (exec_store24 _ (.tmp 7) (.tmp 30) rfl (g23) rfl NN4 INN4 rfl NN3 24 (HS22.out.get (g23) NN3 24 (by simp)) SZNN3) ?_
  simp only [Act.put, sT, sS, sZ]
  have HS25 : Hid (Kt w [(g23, NN4, 24), (g16, NN1, 24), (w.heap.size, ZR2, 26)] (w21.setRow (g23) NN4)) := Lib.hid (HS22.out.set (g23) NN4 NN3 24 (HS22.out.get (g23) NN3 24 (by simp)) (by omega) (fun p hp => by simp at hp; rcases hp with rfl | rfl | rfl <;> first | exact .inl rfl | exact .inr ⟨by simp, by simp only; omega⟩))
  clear HS22
  generalize w21.setRow (g23) NN4 = w24 at *
  refine wpList_run rfl (.bool true) (exec_assign (.tmp 31) rfl _ rfl _) ?_
  simp only [Act.put, sT, sS, sZ]
  refine wpList_nil ?_
  go_upto_region 7 with fail
  refine wp_region_list ?_
  refine wpList_run rfl (.string ⟨(m ++ [b]).toArray⟩) (exec_move (.tmp 0) rfl _ rfl _) ?_
  simp only [Act.put, sT, sS, sZ]
  refine wpList_run rfl (.int .u8 (b.toNat : Int)) (exec_index31 (.tmp 32) rfl rfl m b hm rfl _) ?_
  simp only [Act.put, sT, sS, sZ]
  refine wpList_run rfl (.bool false) (exec_geq128 (.tmp 33) rfl rfl b.toNat false hgb.out rfl _) ?_
  simp only [Act.put, sT, sS, sZ]
  refine wpList_nil ?_
  go_upto_region 9 with fail
  refine wp_region_list ?_
  refine wpList_run rfl (.agg NN4) (exec_load_of _ 24 (.tmp 7) rfl ⟨g23, 0, none⟩ rfl _ (loadA24 INN4 (HS25.out.get (g23) NN4 24 (by simp)))) ?_
  simp only [Act.put, sT, sS, sZ]
  refine wpList_run rfl (.agg NN1) (exec_load_of _ 24 (.tmp 5) rfl ⟨g16, 0, none⟩ rfl _ (loadA24 INN1 (HS25.out.get (g16) NN1 24 (by simp)))) ?_
  simp only [Act.put, sT, sS, sZ]
  refine wpList_run rfl (.agg PP7) (exec_buildN _ 26 #[(0, .tmp 38), (1, .tmp 39)] rfl #[(0, .agg NN4), (1, .agg NN1)] (by simp [Act.eval]) _ (BF6 _)) ?_
  simp only [Act.put, sT, sS, sZ]
  refine wpList_run rfl _ (exec_alloc_agg _ 26 rfl _ (HZ26 _)) ?_
  simp only [Act.put, sT, sS, sZ]
  have lg28_0 := HS25.out.lt (g23) NN4 24 (by simp)
  have lg28_1 := HS25.out.lt (g16) NN1 24 (by simp)
  have lg28_2 := HS25.out.lt (w.heap.size) ZR2 26 (by simp)
  have bg28 := HS25.out.1.size
  have HS27 := Lib.hid (HS25.out.new ZR2 26)
  clear HS25
  generalize w24.alloc (.cells ZR2 26) = w26 at *
  generalize w24.heap.size = g28 at *
  refine wpList_run0 rfl (exec_storeT26 _ (.tmp 9) (.tmp 40) rfl (g28) rfl PP7 IPP7 rfl ZR2 26 (HS27.out.get (g28) ZR2 26 (by simp)) SZZR2) ?_
  simp only [Act.put, sT, sS, sZ]
  have HS30 : Hid (Kt w [(g28, PP7, 26), (g23, NN4, 24), (g16, NN1, 24), (w.heap.size, ZR2, 26)] (w26.setRow (g28) PP7)) := Lib.hid (HS27.out.set (g28) PP7 ZR2 26 (HS27.out.get (g28) ZR2 26 (by simp)) (by omega) (fun p hp => by simp at hp; rcases hp with rfl | rfl | rfl | rfl <;> first | exact .inl rfl | exact .inr ⟨by simp, by simp only; omega⟩))
  clear HS27
  generalize w26.setRow (g28) PP7 = w29 at *
  refine wpList_nil ?_
  have HS31 : Hid (Kt w [(g28, PP7, 26), (w.heap.size, ZR2, 26)] w29) := Lib.hid (HS30.out.sub (fun p hp => by simp at hp; rcases hp with rfl | rfl <;> simp))
  clear HS30
  go_upto_region 10 with fail
  refine wp_region_list ?_
  refine wpList_run rfl (.bool true) (exec_move (.tmp 6) rfl _ rfl _) ?_
  simp only [Act.put, sT, sS, sZ]
  refine wpList_run rfl (.bool false) (exec_notv (.tmp 41) rfl _ rfl false rfl _) ?_
  simp only [Act.put, sT, sS, sZ]
  refine wpList_run rfl (.bool false) (exec_move (.tmp 42) rfl _ rfl _) ?_
  simp only [Act.put, sT, sS, sZ]
  refine wpList_runH (.bool true) (exec_move (.tmp 8) rfl _ rfl _) ?_ (by rfl)
  simp only [Act.put, sT, sS, sZ]
  refine wpList_runH (.bool false) (exec_notv (.tmp 44) rfl _ rfl false rfl _) ?_ (by rfl)
  simp only [Act.put, sT, sS, sZ]
  refine wpList_run rfl (.bool false) (exec_pickf (.tmp 43) (.const (.bool true)) (.tmp 45) rfl rfl _ rfl _) ?_
  simp only [Act.put, sT, sS, sZ]
  refine wpList_run rfl (.bool false) (exec_move (.tmp 46) rfl _ rfl _) ?_
  simp only [Act.put, sT, sS, sZ]
  refine wpList_runH (.agg PP7) (exec_load_of _ 26 (.tmp 9) rfl ⟨g28, 0, none⟩ rfl _ (loadT26 IPP7 (HS31.out.get (g28) PP7 26 (by simp)))) ?_ (by rfl)
  simp only [Act.put, sT, sS, sZ]
  refine wpList_callH (by rfl) 22 #[.tmp 48] #[26] rfl #[.agg PP7] en22 (HC8.out _) ?_
  rintro v w32 ⟨he, hb⟩
  cases he
  have HS33 := Lib.hid (HS31.out.below hb)
  clear hb HS31
  simp only [Act.put, sT, sS, sZ]
  refine wpList_runH (.string ⟨(m ++ [b]).toArray⟩) (exec_move (.tmp 0) rfl _ rfl _) ?_ (by rfl)
  simp only [Act.put, sT, sS, sZ]
  refine wpList_runH (.bool false) (exec_ne9_same (.tmp 49) (.tmp 50) rfl ⟨(m ++ [b]).toArray⟩ rfl rfl _) ?_ (by rfl)
  simp only [Act.put, sT, sS, sZ]
  refine wpList_run rfl (.bool false) (exec_pickf (.tmp 47) (.const (.bool true)) (.tmp 51) rfl rfl _ rfl _) ?_
  simp only [Act.put, sT, sS, sZ]
  refine wpList_nil ?_
  go_upto_region 12 with fail
  refine wp_region_list ?_
  refine wpList_run rfl (.agg PP7) (exec_load_of _ 26 (.tmp 9) rfl ⟨g28, 0, none⟩ rfl _ (loadT26 IPP7 (HS33.out.get (g28) PP7 26 (by simp)))) ?_
  simp only [Act.put, sT, sS, sZ]
  refine wpList_run0 rfl (exec_storeT26 _ (.tmp 2) (.tmp 54) rfl (w.heap.size) rfl PP7 IPP7 rfl ZR2 26 (HS33.out.get (w.heap.size) ZR2 26 (by simp)) SZZR2) ?_
  simp only [Act.put, sT, sS, sZ]
  have HS35 : Hid (Kt w [(g28, PP7, 26), (w.heap.size, PP7, 26)] (w32.setRow (w.heap.size) PP7)) := Lib.hid (HS33.out.set (w.heap.size) PP7 ZR2 26 (HS33.out.get (w.heap.size) ZR2 26 (by simp)) (by omega) (fun p hp => by simp at hp; rcases hp with rfl | rfl <;> first | exact .inl rfl | exact .inr ⟨by simp, by simp only; omega⟩))
  clear HS33
  generalize w32.setRow (w.heap.size) PP7 = w34 at *
  refine wpList_run rfl (.bool true) (exec_assign (.const (.bool true)) rfl _ rfl _) ?_
  simp only [Act.put, sT, sS, sZ]
  refine wpList_nil ?_
  go_wp2
  exact bodyPost_ret (results_two rfl _ _ _ ⟨w.heap.size, 0, none⟩ rfl _ (loadT26 IPP7 (HS35.out.get (w.heap.size) PP7 26 (by simp)))) rfl ⟨rfl, HS35.out.1⟩
set_option maxRecDepth 100000 in
set_option maxHeartbeats 2000000 in
theorem from_d1 (m : List UInt8) (b c : UInt8) (hm : m.length = 31) (hcb : c.toNat = b.toNat % 128) (han1 : bits .andNot .u8 (b.toNat : Int) 128 = (c.toNat : Int)) (y : Nat) (hy : y = leVal m + c.toNat * 256 ^ 31) (hyp : y < pp) (hth : (rootF (fromU y)).2 = true) (hr : (rootF (fromU y)).1 ≠ 0) (hq : ¬ b.toNat < 128) (w : World) (hT0 : GlobT w) (hG0 : Glob w) :
    Calls Tryd.prog 11 #[.string ⟨(m ++ [b]).toArray⟩] w fun e w' => e = .returned (.tuple #[.agg (num (subF 0 (rootF (fromU y)).1) ++ num y), .bool true]) ∧ Below w.heap.size w w' := by
  have HG := Lib.hid hG0
  have HT := Lib.hid hT0
  have han := Lib.hid han1
  have HF := Lib.hid (from_any ⟨(m ++ [c]).toArray⟩ (by show (m ++ [c]).length ≤ _; rw [len31 c hm]; decide))
  rw [fromF_parts m c hm, ← hy, if_pos hyp] at HF
  have hlen : Hid ((⟨(m ++ [b]).toArray⟩ : ByteArray).size = 32) := Lib.hid (len31 b hm)
  have hnb : Hid (false = !(((32 : Nat) : Int) == 32)) := Lib.hid (by decide)
  have hgb : Hid (decide ((128 : Int) ≤ (b.toNat : Int)) = true) := Lib.hid (by simp; omega)
  have hE : bytesN (encP (subF (0) ((rootF (fromU (y))).1), y)) = m ++ [b] := by
    have hev := rootF_even (fromU y)
    have hlt := rootF_lt (fromU y)
    have hsub : subF 0 (rootF (fromU y)).1 = pp - (rootF (fromU y)).1 := by
      unfold subF
      have h3 : 0 + 3 * pp - (rootF (fromU y)).1 = (pp - (rootF (fromU y)).1) + pp * 2 := by omega
      rw [h3, Nat.add_mul_mod_self_left, Nat.mod_eq_of_lt (by omega)]
    have hpp := pp_lit
    have hb256 := b.toNat_lt
    exact enc_odd (by rw [hsub]; omega) hm hy (by omega)
  have HC5 : Hid (∀ w, GlobT w → Glob w → _) := Lib.hid (beside_any (y) (pp_lt hyp))
  rw [hth] at HC5
  have HC8 := Lib.hid (subf_any (0) ((rootF (fromU (y))).1) (by decide) (pp_lt (rootF_lt _)))
  have HC11 := Lib.hid (bytes_pt (subF (0) ((rootF (fromU (y))).1)) (y) (pp_lt (subF_lt _ _)) hyp)
  rw [hE] at HC11
  obtain ⟨NN1, hNN1⟩ : ∃ zz9, Hid (zz9 = num (y)) := ⟨_, Lib.hid rfl⟩
  have INN1 : IsNum NN1 := by rw [hNN1.out]; exact isNum _
  obtain ⟨ZR2, hZR2⟩ : ∃ zz9, Hid (zz9 = (rowOf .u64 8 (fun _ => 0)).toArray) := ⟨_, Lib.hid rfl⟩
  have SZZR2 : ZR2.size = 8 := by rw [hZR2.out]; rfl
  obtain ⟨NN3, hNN3⟩ : ∃ zz9, Hid (zz9 = num (0)) := ⟨_, Lib.hid rfl⟩
  have INN3 : IsNum NN3 := by rw [hNN3.out]; exact isNum _
  obtain ⟨NN4, hNN4⟩ : ∃ zz9, Hid (zz9 = num ((rootF (fromU (y))).1)) := ⟨_, Lib.hid rfl⟩
  have INN4 : IsNum NN4 := by rw [hNN4.out]; exact isNum _
  obtain ⟨NN7, hNN7⟩ : ∃ zz9, Hid (zz9 = num (subF (0) ((rootF (fromU (y))).1))) := ⟨_, Lib.hid rfl⟩
  have INN7 : IsNum NN7 := by rw [hNN7.out]; exact isNum _
  obtain ⟨PP10, hPP10⟩ : ∃ zz9, Hid (zz9 = NN7 ++ NN1) := ⟨_, Lib.hid rfl⟩
  have IPP10 : IsRw 8 PP10 := by rw [hPP10.out]; exact rw_app (isRw4 INN7) (isRw4 INN1)
  have SPP10_0 : Part PP10 0 NN7 := by rw [hPP10.out]; exact part_left 0 (part_all NN7) NN1
  have SPP10_4 : Part PP10 4 NN1 := by rw [hPP10.out]; exact part_right (NN7) NN1 4 (by simp [INN7.size])
  have HZ26 : ∀ w, (zeroValue 26).run Tryd.prog w = .ok (.agg ZR2) w := by rw [hZR2.out]; exact zeroT26
  have HZ24 : ∀ w, (zeroValue 24).run Tryd.prog w = .ok (.agg NN3) w := by rw [hNN3.out]; exact zero_run
  have SZNN3 := INN3.size
  have BF6 : ∀ w, (Instr.build 24 #[]).run Tryd.prog w = .ok (.agg NN3) w := by rw [hNN3.out]; exact build0_run
  have BF9 : ∀ w, (Instr.build 26 #[(0, .agg NN7), (1, .agg NN1)]).run Tryd.prog w = .ok (.agg PP10) w := by rw [hPP10.out]; exact bp01 INN7 INN1
  try simp only [← hNN1.out, ← hNN3.out, ← hNN4.out, ← hNN7.out] at HC5 HC8 HC11 HF ⊢
  try simp only [← hZR2.out, ← hPP10.out] at HC5 HC8 HC11 HF ⊢
  clear hNN1 hZR2 hNN3 hNN4 hNN7 hPP10 hcb han1 hy hyp hG0 hT0 hth hE hq hr
  go_enter Tryd.func11, Tryd.ntmps11
  have HS : Hid (Kt w [] w) := Lib.hid (Kt.nil w)
  go_upto_region 0 with fail
  refine wp_region_list ?_
  refine wpList_run rfl _ (exec_alloc_agg _ 26 rfl _ (HZ26 _)) ?_
  simp only [Act.put, sT, sS, sZ]
  have bg3 := HS.out.1.size
  have HS2 := Lib.hid (HS.out.new ZR2 26)
  clear HS
  generalize w.alloc (.cells ZR2 26) = w1 at *
  refine wpList_run rfl (.bool false) (exec_assign (.const (.bool false)) rfl _ rfl _) ?_
  simp only [Act.put, sT, sS, sZ]
  refine wpList_nil ?_
  go_upto_region 1 with fail
  refine wp_region_list ?_
  refine wpList_run rfl (.string ⟨(m ++ [b]).toArray⟩) (exec_move (.tmp 0) rfl _ rfl _) ?_
  simp only [Act.put, sT, sS, sZ]
  refine wpList_run rfl (.int .i64 (32 : Int)) (exec_len9 (.tmp 10) rfl ⟨(m ++ [b]).toArray⟩ 32 hlen.out rfl _) ?_
  simp only [Act.put, sT, sS, sZ]
  refine wpList_run rfl (.bool false) (exec_neq32 (.tmp 11) rfl rfl 32 false hnb.out rfl _) ?_
  simp only [Act.put, sT, sS, sZ]
  refine wpList_nil ?_
  go_upto_region 3 with fail
  refine wp_region_list ?_
  refine wpList_run rfl (.string ⟨(m ++ [b]).toArray⟩) (exec_move (.tmp 0) rfl _ rfl _) ?_
  simp only [Act.put, sT, sS, sZ]
  obtain ⟨cap8, w4, hcv, hbf, hbl, hlt⟩ := conv_buf w1 (m ++ [b]) (len31 b hm)
  refine wpList_run rfl _ (exec_convG 9 44 (.tmp 14) rfl _ rfl _ _ _ hcv) ?_
  simp only [Act.put, sT, sS, sZ]
  have lgb6_0 := HS2.out.lt (w.heap.size) ZR2 26 (by simp)
  have bgb6 := HS2.out.1.size
  have HS5 := Lib.hid (HS2.out.below hbl)
  have HB7 := Lib.hid hbf
  clear HS2 hcv hbf hbl
  generalize w1.heap.size = gb6 at *
  refine wpList_run rfl (.slice (some ⟨gb6, 0, none⟩) 32 cap8) (exec_assign (.tmp 15) rfl _ rfl _) ?_
  simp only [Act.put, sT, sS, sZ]
  refine wpList_nil ?_
  go_upto_region 4 with fail
  refine wp_region_list ?_
  refine wpList_run rfl (.slice (some ⟨gb6, 0, none⟩) 32 cap8) (exec_move (.tmp 4) rfl _ rfl _) ?_
  simp only [Act.put, sT, sS, sZ]
  refine wpList_run rfl (.pointer (some ⟨gb6, 31, none⟩)) (exec_index44 (.tmp 16) rfl rfl (gb6) cap8 rfl _) ?_
  simp only [Act.put, sT, sS, sZ]
  refine wpList_run rfl (.int .u8 (b.toNat : Int)) (exec_load_one _ 5 (.tmp 17) rfl ⟨gb6, 31, none⟩ rfl _ (HB7.out.cell31 hm) _ Tryd.underlying5 rfl) ?_
  simp only [Act.put, sT, sS, sZ]
  refine wpList_run rfl (.int .u8 (c.toNat : Int)) (exec_andNot128 (.tmp 18) rfl rfl b c han.out rfl _) ?_
  simp only [Act.put, sT, sS, sZ]
  refine wpList_run rfl (.pointer (some ⟨gb6, 31, none⟩)) (exec_index44 (.tmp 16) rfl rfl (gb6) cap8 rfl _) ?_
  simp only [Act.put, sT, sS, sZ]
  refine wpList_run0 rfl (exec_store31 _ (.tmp 20) (.tmp 19) rfl (gb6) rfl c rfl HB7.out hm) ?_
  simp only [Act.put, sT, sS, sZ]
  have HS10 := Lib.hid (HS5.out.cellOther (gb6) 31 (.int .u8 (c.toNat : Int)) (by omega) (fun p hp => by simp at hp; subst hp; simp only; omega))
  have HB11 := Lib.hid (HB7.out.set hm c)
  clear HS5 HB7
  generalize w4.setCell ⟨gb6, 31, none⟩ (.int .u8 (c.toNat : Int)) = w9 at *
  refine wpList_nil ?_
  go_upto_region 5 with fail
  refine wp_region_list ?_
  refine wpList_run rfl (.slice (some ⟨gb6, 0, none⟩) 32 cap8) (exec_move (.tmp 4) rfl _ rfl _) ?_
  simp only [Act.put, sT, sS, sZ]
  refine wpList_run rfl (.string ⟨(m ++ [c]).toArray⟩) (exec_convG 44 9 (.tmp 22) rfl _ rfl _ _ _ (HB11.out.str (len31 c hm))) ?_
  simp only [Act.put, sT, sS, sZ]
  refine wpList_callF rfl 28 #[.tmp 23] #[9] rfl #[.string ⟨(m ++ [c]).toArray⟩] en28 (HF.out _) ?_
  rintro v w12 ⟨he, hb⟩
  cases he
  have HS13 := Lib.hid (HS10.out.below hb)
  clear hb HS10
  simp only [Act.put, sT, sS, sZ]
  refine wpList_run rfl (.tuple #[.agg NN1, .bool true]) (exec_move (.tmp 24) rfl _ rfl _) ?_
  simp only [Act.put, sT, sS, sZ]
  refine wpList_run rfl (.agg NN1) (exec_extract (.tmp 21) 0 rfl _ _ rfl rfl _) ?_
  simp only [Act.put, sT, sS, sZ]
  refine wpList_run rfl (.bool true) (exec_extract (.tmp 21) 1 rfl _ _ rfl rfl _) ?_
  simp only [Act.put, sT, sS, sZ]
  refine wpList_run rfl _ (exec_alloc_agg _ 24 rfl _ (HZ24 _)) ?_
  simp only [Act.put, sT, sS, sZ]
  have lg16_0 := HS13.out.lt (w.heap.size) ZR2 26 (by simp)
  have bg16 := HS13.out.1.size
  have HS15 := Lib.hid (HS13.out.new NN3 24)
  clear HS13
  generalize w12.alloc (.cells NN3 24) = w14 at *
  generalize w12.heap.size = g16 at *
  refine wpList_run0 rfl (exec_store24 _ (.tmp 5) (.tmp 25) rfl (g16) rfl NN1 INN1 rfl NN3 24 (HS15.out.get (g16) NN3 24 (by simp)) SZNN3) ?_
  simp only [Act.put, sT, sS, sZ]
  have HS18 : Hid (Kt w [(g16, NN1, 24), (w.heap.size, ZR2, 26)] (w14.setRow (g16) NN1)) := Lib.hid (HS15.out.set (g16) NN1 NN3 24 (HS15.out.get (g16) NN3 24 (by simp)) (by omega) (fun p hp => by simp at hp; rcases hp with rfl | rfl <;> first | exact .inl rfl | exact .inr ⟨by simp, by simp only; omega⟩))
  clear HS15
  generalize w14.setRow (g16) NN1 = w17 at *
  refine wpList_run rfl (.bool true) (exec_assign (.tmp 26) rfl _ rfl _) ?_
  simp only [Act.put, sT, sS, sZ]
  refine wpList_nil ?_
  go_upto_region 6 with fail
  refine wp_region_list ?_
  refine wpList_run rfl (.agg NN1) (exec_load_of _ 24 (.tmp 5) rfl ⟨g16, 0, none⟩ rfl _ (loadA24 INN1 (HS18.out.get (g16) NN1 24 (by simp)))) ?_
  simp only [Act.put, sT, sS, sZ]
  refine wpList_callF rfl 29 #[.tmp 28] #[24] rfl #[.agg NN1] en29 (HC5.out _ (HT.out.below HS18.out.1) (HG.out.below HS18.out.1)) ?_
  rintro v w19 ⟨he, hb⟩
  cases he
  have HS20 := Lib.hid (HS18.out.below hb)
  clear hb HS18
  simp only [Act.put, sT, sS, sZ]
  refine wpList_run rfl (.tuple #[.agg NN4, .bool true]) (exec_move (.tmp 29) rfl _ rfl _) ?_
  simp only [Act.put, sT, sS, sZ]
  refine wpList_run rfl (.agg NN4) (exec_extract (.tmp 27) 0 rfl _ _ rfl rfl _) ?_
  simp only [Act.put, sT, sS, sZ]
  refine wpList_run rfl (.bool true) (exec_extract (.tmp 27) 1 rfl _ _ rfl rfl _) ?_
  simp only [Act.put, sT, sS, sZ]
  refine wpList_run rfl _ (exec_alloc_agg _ 24 rfl _ (HZ24 _)) ?_
  simp only [Act.put, sT, sS, sZ]
  have lg23_0 := HS20.out.lt (g16) NN1 24 (by simp)
  have lg23_1 := HS20.out.lt (w.heap.size) ZR2 26 (by simp)
  have bg23 := HS20.out.1.size
  have HS22 := Lib.hid (HS20.out.new NN3 24)
  clear HS20
  generalize w19.alloc (.cells NN3 24) = w21 at *
  generalize w19.heap.size = g23 at *
  refine wpList_run0 rfl (exec_store24 _ (.tmp 7) (.tmp 30) rfl (g23) rfl NN4 INN4 rfl NN3 24 (HS22.out.get (g23) NN3 24 (by simp)) SZNN3) ?_
  simp only [Act.put, sT, sS, sZ]
  have HS25 : Hid (Kt w [(g23, NN4, 24), (g16, NN1, 24), (w.heap.size, ZR2, 26)] (w21.setRow (g23) NN4)) := Lib.hid (HS22.out.set (g23) NN4 NN3 24 (HS22.out.get (g23) NN3 24 (by simp)) (by omega) (fun p hp => by simp at hp; rcases hp with rfl | rfl | rfl <;> first | exact .inl rfl | exact .inr ⟨by simp, by simp only; omega⟩))
  clear HS22
  generalize w21.setRow (g23) NN4 = w24 at *
  refine wpList_run rfl (.bool true) (exec_assign (.tmp 31) rfl _ rfl _) ?_
  simp only [Act.put, sT, sS, sZ]
  refine wpList_nil ?_
  go_upto_region 7 with fail
  refine wp_region_list ?_
  refine wpList_run rfl (.string ⟨(m ++ [b]).toArray⟩) (exec_move (.tmp 0) rfl _ rfl _) ?_
  simp only [Act.put, sT, sS, sZ]
  refine wpList_run rfl (.int .u8 (b.toNat : Int)) (exec_index31 (.tmp 32) rfl rfl m b hm rfl _) ?_
  simp only [Act.put, sT, sS, sZ]
  refine wpList_run rfl (.bool true) (exec_geq128 (.tmp 33) rfl rfl b.toNat true hgb.out rfl _) ?_
  simp only [Act.put, sT, sS, sZ]
  refine wpList_nil ?_
  go_upto_region 8 with fail
  refine wp_region_list ?_
  refine wpList_run rfl (.agg NN3) (exec_buildN _ 24 #[] rfl #[] (by simp [Act.eval]) _ (BF6 _)) ?_
  simp only [Act.put, sT, sS, sZ]
  refine wpList_run rfl (.agg NN4) (exec_load_of _ 24 (.tmp 7) rfl ⟨g23, 0, none⟩ rfl _ (loadA24 INN4 (HS25.out.get (g23) NN4 24 (by simp)))) ?_
  simp only [Act.put, sT, sS, sZ]
  refine wpList_callF rfl 30 #[.tmp 35, .tmp 36] #[24, 24] rfl #[.agg NN3, .agg NN4] en30 (HC8.out _) ?_
  rintro v w26 ⟨he, hb⟩
  cases he
  have HS27 := Lib.hid (HS25.out.below hb)
  clear hb HS25
  simp only [Act.put, sT, sS, sZ]
  refine wpList_run0 rfl (exec_store24 _ (.tmp 7) (.tmp 37) rfl (g23) rfl NN7 INN7 rfl NN4 24 (HS27.out.get (g23) NN4 24 (by simp)) INN4.size) ?_
  simp only [Act.put, sT, sS, sZ]
  have HS29 : Hid (Kt w [(g23, NN7, 24), (g16, NN1, 24), (w.heap.size, ZR2, 26)] (w26.setRow (g23) NN7)) := Lib.hid (HS27.out.set (g23) NN7 NN4 24 (HS27.out.get (g23) NN4 24 (by simp)) (by omega) (fun p hp => by simp at hp; rcases hp with rfl | rfl | rfl <;> first | exact .inl rfl | exact .inr ⟨by simp, by simp only; omega⟩))
  clear HS27
  generalize w26.setRow (g23) NN7 = w28 at *
  refine wpList_nil ?_
  go_upto_region 9 with fail
  refine wp_region_list ?_
  refine wpList_run rfl (.agg NN7) (exec_load_of _ 24 (.tmp 7) rfl ⟨g23, 0, none⟩ rfl _ (loadA24 INN7 (HS29.out.get (g23) NN7 24 (by simp)))) ?_
  simp only [Act.put, sT, sS, sZ]
  refine wpList_run rfl (.agg NN1) (exec_load_of _ 24 (.tmp 5) rfl ⟨g16, 0, none⟩ rfl _ (loadA24 INN1 (HS29.out.get (g16) NN1 24 (by simp)))) ?_
  simp only [Act.put, sT, sS, sZ]
  refine wpList_run rfl (.agg PP10) (exec_buildN _ 26 #[(0, .tmp 38), (1, .tmp 39)] rfl #[(0, .agg NN7), (1, .agg NN1)] (by simp [Act.eval]) _ (BF9 _)) ?_
  simp only [Act.put, sT, sS, sZ]
  refine wpList_run rfl _ (exec_alloc_agg _ 26 rfl _ (HZ26 _)) ?_
  simp only [Act.put, sT, sS, sZ]
  have lg32_0 := HS29.out.lt (g23) NN7 24 (by simp)
  have lg32_1 := HS29.out.lt (g16) NN1 24 (by simp)
  have lg32_2 := HS29.out.lt (w.heap.size) ZR2 26 (by simp)
  have bg32 := HS29.out.1.size
  have HS31 := Lib.hid (HS29.out.new ZR2 26)
  clear HS29
  generalize w28.alloc (.cells ZR2 26) = w30 at *
  generalize w28.heap.size = g32 at *
  refine wpList_run0 rfl (exec_storeT26 _ (.tmp 9) (.tmp 40) rfl (g32) rfl PP10 IPP10 rfl ZR2 26 (HS31.out.get (g32) ZR2 26 (by simp)) SZZR2) ?_
  simp only [Act.put, sT, sS, sZ]
  have HS34 : Hid (Kt w [(g32, PP10, 26), (g23, NN7, 24), (g16, NN1, 24), (w.heap.size, ZR2, 26)] (w30.setRow (g32) PP10)) := Lib.hid (HS31.out.set (g32) PP10 ZR2 26 (HS31.out.get (g32) ZR2 26 (by simp)) (by omega) (fun p hp => by simp at hp; rcases hp with rfl | rfl | rfl | rfl <;> first | exact .inl rfl | exact .inr ⟨by simp, by simp only; omega⟩))
  clear HS31
  generalize w30.setRow (g32) PP10 = w33 at *
  refine wpList_nil ?_
  have HS35 : Hid (Kt w [(g32, PP10, 26), (w.heap.size, ZR2, 26)] w33) := Lib.hid (HS34.out.sub (fun p hp => by simp at hp; rcases hp with rfl | rfl <;> simp))
  clear HS34
  go_upto_region 10 with fail
  refine wp_region_list ?_
  refine wpList_run rfl (.bool true) (exec_move (.tmp 6) rfl _ rfl _) ?_
  simp only [Act.put, sT, sS, sZ]
  refine wpList_run rfl (.bool false) (exec_notv (.tmp 41) rfl _ rfl false rfl _) ?_
  simp only [Act.put, sT, sS, sZ]
  refine wpList_run rfl (.bool false) (exec_move (.tmp 42) rfl _ rfl _) ?_
  simp only [Act.put, sT, sS, sZ]
  refine wpList_runH (.bool true) (exec_move (.tmp 8) rfl _ rfl _) ?_ (by rfl)
  simp only [Act.put, sT, sS, sZ]
  refine wpList_runH (.bool false) (exec_notv (.tmp 44) rfl _ rfl false rfl _) ?_ (by rfl)
  simp only [Act.put, sT, sS, sZ]
  refine wpList_run rfl (.bool false) (exec_pickf (.tmp 43) (.const (.bool true)) (.tmp 45) rfl rfl _ rfl _) ?_
  simp only [Act.put, sT, sS, sZ]
  refine wpList_run rfl (.bool false) (exec_move (.tmp 46) rfl _ rfl _) ?_
  simp only [Act.put, sT, sS, sZ]
  refine wpList_runH (.agg PP10) (exec_load_of _ 26 (.tmp 9) rfl ⟨g32, 0, none⟩ rfl _ (loadT26 IPP10 (HS35.out.get (g32) PP10 26 (by simp)))) ?_ (by rfl)
  simp only [Act.put, sT, sS, sZ]
  refine wpList_callH (by rfl) 22 #[.tmp 48] #[26] rfl #[.agg PP10] en22 (HC11.out _) ?_
  rintro v w36 ⟨he, hb⟩
  cases he
  have HS37 := Lib.hid (HS35.out.below hb)
  clear hb HS35
  simp only [Act.put, sT, sS, sZ]
  refine wpList_runH (.string ⟨(m ++ [b]).toArray⟩) (exec_move (.tmp 0) rfl _ rfl _) ?_ (by rfl)
  simp only [Act.put, sT, sS, sZ]
  refine wpList_runH (.bool false) (exec_ne9_same (.tmp 49) (.tmp 50) rfl ⟨(m ++ [b]).toArray⟩ rfl rfl _) ?_ (by rfl)
  simp only [Act.put, sT, sS, sZ]
  refine wpList_run rfl (.bool false) (exec_pickf (.tmp 47) (.const (.bool true)) (.tmp 51) rfl rfl _ rfl _) ?_
  simp only [Act.put, sT, sS, sZ]
  refine wpList_nil ?_
  go_upto_region 12 with fail
  refine wp_region_list ?_
  refine wpList_run rfl (.agg PP10) (exec_load_of _ 26 (.tmp 9) rfl ⟨g32, 0, none⟩ rfl _ (loadT26 IPP10 (HS37.out.get (g32) PP10 26 (by simp)))) ?_
  simp only [Act.put, sT, sS, sZ]
  refine wpList_run0 rfl (exec_storeT26 _ (.tmp 2) (.tmp 54) rfl (w.heap.size) rfl PP10 IPP10 rfl ZR2 26 (HS37.out.get (w.heap.size) ZR2 26 (by simp)) SZZR2) ?_
  simp only [Act.put, sT, sS, sZ]
  have HS39 : Hid (Kt w [(g32, PP10, 26), (w.heap.size, PP10, 26)] (w36.setRow (w.heap.size) PP10)) := Lib.hid (HS37.out.set (w.heap.size) PP10 ZR2 26 (HS37.out.get (w.heap.size) ZR2 26 (by simp)) (by omega) (fun p hp => by simp at hp; rcases hp with rfl | rfl <;> first | exact .inl rfl | exact .inr ⟨by simp, by simp only; omega⟩))
  clear HS37
  generalize w36.setRow (w.heap.size) PP10 = w38 at *
  refine wpList_run rfl (.bool true) (exec_assign (.const (.bool true)) rfl _ rfl _) ?_
  simp only [Act.put, sT, sS, sZ]
  refine wpList_nil ?_
  go_wp2
  exact bodyPost_ret (results_two rfl _ _ _ ⟨w.heap.size, 0, none⟩ rfl _ (loadT26 IPP10 (HS39.out.get (w.heap.size) PP10 26 (by simp)))) rfl ⟨rfl, HS39.out.1⟩
set_option maxRecDepth 100000 in
set_option maxHeartbeats 2000000 in
theorem from_e1 (m : List UInt8) (b c : UInt8) (hm : m.length = 31) (hcb : c.toNat = b.toNat % 128) (han1 : bits .andNot .u8 (b.toNat : Int) 128 = (c.toNat : Int)) (y : Nat) (hy : y = leVal m + c.toNat * 256 ^ 31) (hyp : y < pp) (hth : (rootF (fromU y)).2 = true) (hr : (rootF (fromU y)).1 = 0) (hq : ¬ b.toNat < 128) (w : World) (hT0 : GlobT w) (hG0 : Glob w) :
    Calls Tryd.prog 11 #[.string ⟨(m ++ [b]).toArray⟩] w fun e w' => e = .returned (.tuple #[.agg (num 0 ++ num 0), .bool false]) ∧ Below w.heap.size w w' := by
  have HG := Lib.hid hG0
  have HT := Lib.hid hT0
  have han := Lib.hid han1
  have HF := Lib.hid (from_any ⟨(m ++ [c]).toArray⟩ (by show (m ++ [c]).length ≤ _; rw [len31 c hm]; decide))
  rw [fromF_parts m c hm, ← hy, if_pos hyp] at HF
  have hlen : Hid ((⟨(m ++ [b]).toArray⟩ : ByteArray).size = 32) := Lib.hid (len31 b hm)
  have hnb : Hid (false = !(((32 : Nat) : Int) == 32)) := Lib.hid (by decide)
  have hgb : Hid (decide ((128 : Int) ≤ (b.toNat : Int)) = true) := Lib.hid (by simp; omega)
  have hE : bytesN (encP (subF (0) ((rootF (fromU (y))).1), y)) = m ++ [c] := by
    rw [hr, neg_zero, enc_even (by decide), hy, bytes_join m c hm]
  have hb256 := b.toNat_lt
  have hne : Hid ((⟨(m ++ [c]).toArray⟩ : ByteArray) ≠ ⟨(m ++ [b]).toArray⟩) := Lib.hid (text_ne (by omega))
  have HC5 : Hid (∀ w, GlobT w → Glob w → _) := Lib.hid (beside_any (y) (pp_lt hyp))
  rw [hth] at HC5
  have HC8 := Lib.hid (subf_any (0) ((rootF (fromU (y))).1) (by decide) (pp_lt (rootF_lt _)))
  have HC11 := Lib.hid (bytes_pt (subF (0) ((rootF (fromU (y))).1)) (y) (pp_lt (subF_lt _ _)) hyp)
  rw [hE] at HC11
  obtain ⟨NN1, hNN1⟩ : ∃ zz9, Hid (zz9 = num (y)) := ⟨_, Lib.hid rfl⟩
  have INN1 : IsNum NN1 := by rw [hNN1.out]; exact isNum _
  obtain ⟨ZR2, hZR2⟩ : ∃ zz9, Hid (zz9 = (rowOf .u64 8 (fun _ => 0)).toArray) := ⟨_, Lib.hid rfl⟩
  have SZZR2 : ZR2.size = 8 := by rw [hZR2.out]; rfl
  obtain ⟨NN3, hNN3⟩ : ∃ zz9, Hid (zz9 = num (0)) := ⟨_, Lib.hid rfl⟩
  have INN3 : IsNum NN3 := by rw [hNN3.out]; exact isNum _
  obtain ⟨NN4, hNN4⟩ : ∃ zz9, Hid (zz9 = num ((rootF (fromU (y))).1)) := ⟨_, Lib.hid rfl⟩
  have INN4 : IsNum NN4 := by rw [hNN4.out]; exact isNum _
  obtain ⟨NN7, hNN7⟩ : ∃ zz9, Hid (zz9 = num (subF (0) ((rootF (fromU (y))).1))) := ⟨_, Lib.hid rfl⟩
  have INN7 : IsNum NN7 := by rw [hNN7.out]; exact isNum _
  obtain ⟨PP10, hPP10⟩ : ∃ zz9, Hid (zz9 = NN7 ++ NN1) := ⟨_, Lib.hid rfl⟩
  have IPP10 : IsRw 8 PP10 := by rw [hPP10.out]; exact rw_app (isRw4 INN7) (isRw4 INN1)
  have SPP10_0 : Part PP10 0 NN7 := by rw [hPP10.out]; exact part_left 0 (part_all NN7) NN1
  have SPP10_4 : Part PP10 4 NN1 := by rw [hPP10.out]; exact part_right (NN7) NN1 4 (by simp [INN7.size])
  obtain ⟨PP13, hPP13⟩ : ∃ zz9, Hid (zz9 = NN3 ++ NN3) := ⟨_, Lib.hid rfl⟩
  have IPP13 : IsRw 8 PP13 := by rw [hPP13.out]; exact rw_app (isRw4 INN3) (isRw4 INN3)
  have SPP13_0 : Part PP13 0 NN3 := by rw [hPP13.out]; exact part_left 0 (part_all NN3) NN3
  have SPP13_4 : Part PP13 4 NN3 := by rw [hPP13.out]; exact part_right (NN3) NN3 4 (by simp [INN3.size])
  have HZ26 : ∀ w, (zeroValue 26).run Tryd.prog w = .ok (.agg ZR2) w := by rw [hZR2.out]; exact zeroT26
  have HZ24 : ∀ w, (zeroValue 24).run Tryd.prog w = .ok (.agg NN3) w := by rw [hNN3.out]; exact zero_run
  have SZNN3 := INN3.size
  have BF6 : ∀ w, (Instr.build 24 #[]).run Tryd.prog w = .ok (.agg NN3) w := by rw [hNN3.out]; exact build0_run
  have BF9 : ∀ w, (Instr.build 26 #[(0, .agg NN7), (1, .agg NN1)]).run Tryd.prog w = .ok (.agg PP10) w := by rw [hPP10.out]; exact bp01 INN7 INN1
  have BF12 : ∀ w, (Instr.build 26 #[]).run Tryd.prog w = .ok (.agg PP13) w := by have q := bp_none; rw [← hNN3.out] at q; rw [hPP13.out]; exact q
  try simp only [← hNN1.out, ← hNN3.out, ← hNN4.out, ← hNN7.out] at HC5 HC8 HC11 HF ⊢
  try simp only [← hZR2.out, ← hPP10.out, ← hPP13.out] at HC5 HC8 HC11 HF ⊢
  clear hNN1 hZR2 hNN3 hNN4 hNN7 hPP10 hPP13 hcb han1 hy hyp hG0 hT0 hth hE hq hr
  go_enter Tryd.func11, Tryd.ntmps11
  have HS : Hid (Kt w [] w) := Lib.hid (Kt.nil w)
  go_upto_region 0 with fail
  refine wp_region_list ?_
  refine wpList_run rfl _ (exec_alloc_agg _ 26 rfl _ (HZ26 _)) ?_
  simp only [Act.put, sT, sS, sZ]
  have bg3 := HS.out.1.size
  have HS2 := Lib.hid (HS.out.new ZR2 26)
  clear HS
  generalize w.alloc (.cells ZR2 26) = w1 at *
  refine wpList_run rfl (.bool false) (exec_assign (.const (.bool false)) rfl _ rfl _) ?_
  simp only [Act.put, sT, sS, sZ]
  refine wpList_nil ?_
  go_upto_region 1 with fail
  refine wp_region_list ?_
  refine wpList_run rfl (.string ⟨(m ++ [b]).toArray⟩) (exec_move (.tmp 0) rfl _ rfl _) ?_
  simp only [Act.put, sT, sS, sZ]
  refine wpList_run rfl (.int .i64 (32 : Int)) (exec_len9 (.tmp 10) rfl ⟨(m ++ [b]).toArray⟩ 32 hlen.out rfl _) ?_
  simp only [Act.put, sT, sS, sZ]
  refine wpList_run rfl (.bool false) (exec_neq32 (.tmp 11) rfl rfl 32 false hnb.out rfl _) ?_
  simp only [Act.put, sT, sS, sZ]
  refine wpList_nil ?_
  go_upto_region 3 with fail
  refine wp_region_list ?_
  refine wpList_run rfl (.string ⟨(m ++ [b]).toArray⟩) (exec_move (.tmp 0) rfl _ rfl _) ?_
  simp only [Act.put, sT, sS, sZ]
  obtain ⟨cap8, w4, hcv, hbf, hbl, hlt⟩ := conv_buf w1 (m ++ [b]) (len31 b hm)
  refine wpList_run rfl _ (exec_convG 9 44 (.tmp 14) rfl _ rfl _ _ _ hcv) ?_
  simp only [Act.put, sT, sS, sZ]
  have lgb6_0 := HS2.out.lt (w.heap.size) ZR2 26 (by simp)
  have bgb6 := HS2.out.1.size
  have HS5 := Lib.hid (HS2.out.below hbl)
  have HB7 := Lib.hid hbf
  clear HS2 hcv hbf hbl
  generalize w1.heap.size = gb6 at *
  refine wpList_run rfl (.slice (some ⟨gb6, 0, none⟩) 32 cap8) (exec_assign (.tmp 15) rfl _ rfl _) ?_
  simp only [Act.put, sT, sS, sZ]
  refine wpList_nil ?_
  go_upto_region 4 with fail
  refine wp_region_list ?_
  refine wpList_run rfl (.slice (some ⟨gb6, 0, none⟩) 32 cap8) (exec_move (.tmp 4) rfl _ rfl _) ?_
  simp only [Act.put, sT, sS, sZ]
  refine wpList_run rfl (.pointer (some ⟨gb6, 31, none⟩)) (exec_index44 (.tmp 16) rfl rfl (gb6) cap8 rfl _) ?_
  simp only [Act.put, sT, sS, sZ]
  refine wpList_run rfl (.int .u8 (b.toNat : Int)) (exec_load_one _ 5 (.tmp 17) rfl ⟨gb6, 31, none⟩ rfl _ (HB7.out.cell31 hm) _ Tryd.underlying5 rfl) ?_
  simp only [Act.put, sT, sS, sZ]
  refine wpList_run rfl (.int .u8 (c.toNat : Int)) (exec_andNot128 (.tmp 18) rfl rfl b c han.out rfl _) ?_
  simp only [Act.put, sT, sS, sZ]
  refine wpList_run rfl (.pointer (some ⟨gb6, 31, none⟩)) (exec_index44 (.tmp 16) rfl rfl (gb6) cap8 rfl _) ?_
  simp only [Act.put, sT, sS, sZ]
  refine wpList_run0 rfl (exec_store31 _ (.tmp 20) (.tmp 19) rfl (gb6) rfl c rfl HB7.out hm) ?_
  simp only [Act.put, sT, sS, sZ]
  have HS10 := Lib.hid (HS5.out.cellOther (gb6) 31 (.int .u8 (c.toNat : Int)) (by omega) (fun p hp => by simp at hp; subst hp; simp only; omega))
  have HB11 := Lib.hid (HB7.out.set hm c)
  clear HS5 HB7
  generalize w4.setCell ⟨gb6, 31, none⟩ (.int .u8 (c.toNat : Int)) = w9 at *
  refine wpList_nil ?_
  go_upto_region 5 with fail
  refine wp_region_list ?_
  refine wpList_run rfl (.slice (some ⟨gb6, 0, none⟩) 32 cap8) (exec_move (.tmp 4) rfl _ rfl _) ?_
  simp only [Act.put, sT, sS, sZ]
  refine wpList_run rfl (.string ⟨(m ++ [c]).toArray⟩) (exec_convG 44 9 (.tmp 22) rfl _ rfl _ _ _ (HB11.out.str (len31 c hm))) ?_
  simp only [Act.put, sT, sS, sZ]
  refine wpList_callF rfl 28 #[.tmp 23] #[9] rfl #[.string ⟨(m ++ [c]).toArray⟩] en28 (HF.out _) ?_
  rintro v w12 ⟨he, hb⟩
  cases he
  have HS13 := Lib.hid (HS10.out.below hb)
  clear hb HS10
  simp only [Act.put, sT, sS, sZ]
  refine wpList_run rfl (.tuple #[.agg NN1, .bool true]) (exec_move (.tmp 24) rfl _ rfl _) ?_
  simp only [Act.put, sT, sS, sZ]
  refine wpList_run rfl (.agg NN1) (exec_extract (.tmp 21) 0 rfl _ _ rfl rfl _) ?_
  simp only [Act.put, sT, sS, sZ]
  refine wpList_run rfl (.bool true) (exec_extract (.tmp 21) 1 rfl _ _ rfl rfl _) ?_
  simp only [Act.put, sT, sS, sZ]
  refine wpList_run rfl _ (exec_alloc_agg _ 24 rfl _ (HZ24 _)) ?_
  simp only [Act.put, sT, sS, sZ]
  have lg16_0 := HS13.out.lt (w.heap.size) ZR2 26 (by simp)
  have bg16 := HS13.out.1.size
  have HS15 := Lib.hid (HS13.out.new NN3 24)
  clear HS13
  generalize w12.alloc (.cells NN3 24) = w14 at *
  generalize w12.heap.size = g16 at *
  refine wpList_run0 rfl (exec_store24 _ (.tmp 5) (.tmp 25) rfl (g16) rfl NN1 INN1 rfl NN3 24 (HS15.out.get (g16) NN3 24 (by simp)) SZNN3) ?_
  simp only [Act.put, sT, sS, sZ]
  have HS18 : Hid (Kt w [(g16, NN1, 24), (w.heap.size, ZR2, 26)] (w14.setRow (g16) NN1)) := Lib.hid (HS15.out.set (g16) NN1 NN3 24 (HS15.out.get (g16) NN3 24 (by simp)) (by omega) (fun p hp => by simp at hp; rcases hp with rfl | rfl <;> first | exact .inl rfl | exact .inr ⟨by simp, by simp only; omega⟩))
  clear HS15
  generalize w14.setRow (g16) NN1 = w17 at *
  refine wpList_run rfl (.bool true) (exec_assign (.tmp 26) rfl _ rfl _) ?_
  simp only [Act.put, sT, sS, sZ]
  refine wpList_nil ?_
  go_upto_region 6 with fail
  refine wp_region_list ?_
  refine wpList_run rfl (.agg NN1) (exec_load_of _ 24 (.tmp 5) rfl ⟨g16, 0, none⟩ rfl _ (loadA24 INN1 (HS18.out.get (g16) NN1 24 (by simp)))) ?_
  simp only [Act.put, sT, sS, sZ]
  refine wpList_callF rfl 29 #[.tmp 28] #[24] rfl #[.agg NN1] en29 (HC5.out _ (HT.out.below HS18.out.1) (HG.out.below HS18.out.1)) ?_
  rintro v w19 ⟨he, hb⟩
  cases he
  have HS20 := Lib.hid (HS18.out.below hb)
  clear hb HS18
  simp only [Act.put, sT, sS, sZ]
  refine wpList_run rfl (.tuple #[.agg NN4, .bool true]) (exec_move (.tmp 29) rfl _ rfl _) ?_
  simp only [Act.put, sT, sS, sZ]
  refine wpList_run rfl (.agg NN4) (exec_extract (.tmp 27) 0 rfl _ _ rfl rfl _) ?_
  simp only [Act.put, sT, sS, sZ]
  refine wpList_run rfl (.bool true) (exec_extract (.tmp 27) 1 rfl _ _ rfl rfl _) ?_
  simp only [Act.put, sT, sS, sZ]
  refine wpList_run rfl _ (exec_alloc_agg _ 24 rfl _ (HZ24 _)) ?_
  simp only [Act.put, sT, sS, sZ]
  have lg23_0 := HS20.out.lt (g16) NN1 24 (by simp)
  have lg23_1 := HS20.out.lt (w.heap.size) ZR2 26 (by simp)
  have bg23 := HS20.out.1.size
  have HS22 := Lib.hid (HS20.out.new NN3 24)
  clear HS20
  generalize w19.alloc (.cells NN3 24) = w21 at *
  generalize w19.heap.size = g23 at *
  refine wpList_run0 rfl (exec_store24 _ (.tmp 7) (.tmp 30) rfl (g23) rfl NN4 INN4 rfl NN3 24 (HS22.out.get (g23) NN3 24 (by simp)) SZNN3) ?_
  simp only [Act.put, sT, sS, sZ]
  have HS25 : Hid (Kt w [(g23, NN4, 24), (g16, NN1, 24), (w.heap.size, ZR2, 26)] (w21.setRow (g23) NN4)) := Lib.hid (HS22.out.set (g23) NN4 NN3 24 (HS22.out.get (g23) NN3 24 (by simp)) (by omega) (fun p hp => by simp at hp; rcases hp with rfl | rfl | rfl <;> first | exact .inl rfl | exact .inr ⟨by simp, by simp only; omega⟩))
  clear HS22
  generalize w21.setRow (g23) NN4 = w24 at *
  refine wpList_run rfl (.bool true) (exec_assign (.tmp 31) rfl _ rfl _) ?_
  simp only [Act.put, sT, sS, sZ]
  refine wpList_nil ?_
  go_upto_region 7 with fail
  refine wp_region_list ?_
  refine wpList_run rfl (.string ⟨(m ++ [b]).toArray⟩) (exec_move (.tmp 0) rfl _ rfl _) ?_
  simp only [Act.put, sT, sS, sZ]
  refine wpList_run rfl (.int .u8 (b.toNat : Int)) (exec_index31 (.tmp 32) rfl rfl m b hm rfl _) ?_
  simp only [Act.put, sT, sS, sZ]
  refine wpList_run rfl (.bool true) (exec_geq128 (.tmp 33) rfl rfl b.toNat true hgb.out rfl _) ?_
  simp only [Act.put, sT, sS, sZ]
  refine wpList_nil ?_
  go_upto_region 8 with fail
  refine wp_region_list ?_
  refine wpList_run rfl (.agg NN3) (exec_buildN _ 24 #[] rfl #[] (by simp [Act.eval]) _ (BF6 _)) ?_
  simp only [Act.put, sT, sS, sZ]
  refine wpList_run rfl (.agg NN4) (exec_load_of _ 24 (.tmp 7) rfl ⟨g23, 0, none⟩ rfl _ (loadA24 INN4 (HS25.out.get (g23) NN4 24 (by simp)))) ?_
  simp only [Act.put, sT, sS, sZ]
  refine wpList_callF rfl 30 #[.tmp 35, .tmp 36] #[24, 24] rfl #[.agg NN3, .agg NN4] en30 (HC8.out _) ?_
  rintro v w26 ⟨he, hb⟩
  cases he
  have HS27 := Lib.hid (HS25.out.below hb)
  clear hb HS25
  simp only [Act.put, sT, sS, sZ]
  refine wpList_run0 rfl (exec_store24 _ (.tmp 7) (.tmp 37) rfl (g23) rfl NN7 INN7 rfl NN4 24 (HS27.out.get (g23) NN4 24 (by simp)) INN4.size) ?_
  simp only [Act.put, sT, sS, sZ]
  have HS29 : Hid (Kt w [(g23, NN7, 24), (g16, NN1, 24), (w.heap.size, ZR2, 26)] (w26.setRow (g23) NN7)) := Lib.hid (HS27.out.set (g23) NN7 NN4 24 (HS27.out.get (g23) NN4 24 (by simp)) (by omega) (fun p hp => by simp at hp; rcases hp with rfl | rfl | rfl <;> first | exact .inl rfl | exact .inr ⟨by simp, by simp only; omega⟩))
  clear HS27
  generalize w26.setRow (g23) NN7 = w28 at *
  refine wpList_nil ?_
  go_upto_region 9 with fail
  refine wp_region_list ?_
  refine wpList_run rfl (.agg NN7) (exec_load_of _ 24 (.tmp 7) rfl ⟨g23, 0, none⟩ rfl _ (loadA24 INN7 (HS29.out.get (g23) NN7 24 (by simp)))) ?_
  simp only [Act.put, sT, sS, sZ]
  refine wpList_run rfl (.agg NN1) (exec_load_of _ 24 (.tmp 5) rfl ⟨g16, 0, none⟩ rfl _ (loadA24 INN1 (HS29.out.get (g16) NN1 24 (by simp)))) ?_
  simp only [Act.put, sT, sS, sZ]
  refine wpList_run rfl (.agg PP10) (exec_buildN _ 26 #[(0, .tmp 38), (1, .tmp 39)] rfl #[(0, .agg NN7), (1, .agg NN1)] (by simp [Act.eval]) _ (BF9 _)) ?_
  simp only [Act.put, sT, sS, sZ]
  refine wpList_run rfl _ (exec_alloc_agg _ 26 rfl _ (HZ26 _)) ?_
  simp only [Act.put, sT, sS, sZ]
  have lg32_0 := HS29.out.lt (g23) NN7 24 (by simp)
  have lg32_1 := HS29.out.lt (g16) NN1 24 (by simp)
  have lg32_2 := HS29.out.lt (w.heap.size) ZR2 26 (by simp)
  have bg32 := HS29.out.1.size
  have HS31 := Lib.hid (HS29.out.new ZR2 26)
  clear HS29
  generalize w28.alloc (.cells ZR2 26) = w30 at *
  generalize w28.heap.size = g32 at *
  refine wpList_run0 rfl (exec_storeT26 _ (.tmp 9) (.tmp 40) rfl (g32) rfl PP10 IPP10 rfl ZR2 26 (HS31.out.get (g32) ZR2 26 (by simp)) SZZR2) ?_
  simp only [Act.put, sT, sS, sZ]
  have HS34 : Hid (Kt w [(g32, PP10, 26), (g23, NN7, 24), (g16, NN1, 24), (w.heap.size, ZR2, 26)] (w30.setRow (g32) PP10)) := Lib.hid (HS31.out.set (g32) PP10 ZR2 26 (HS31.out.get (g32) ZR2 26 (by simp)) (by omega) (fun p hp => by simp at hp; rcases hp with rfl | rfl | rfl | rfl <;> first | exact .inl rfl | exact .inr ⟨by simp, by simp only; omega⟩))
  clear HS31
  generalize w30.setRow (g32) PP10 = w33 at *
  refine wpList_nil ?_
  have HS35 : Hid (Kt w [(g32, PP10, 26), (w.heap.size, ZR2, 26)] w33) := Lib.hid (HS34.out.sub (fun p hp => by simp at hp; rcases hp with rfl | rfl <;> simp))
  clear HS34
  go_upto_region 10 with fail
  refine wp_region_list ?_
  refine wpList_run rfl (.bool true) (exec_move (.tmp 6) rfl _ rfl _) ?_
  simp only [Act.put, sT, sS, sZ]
  refine wpList_run rfl (.bool false) (exec_notv (.tmp 41) rfl _ rfl false rfl _) ?_
  simp only [Act.put, sT, sS, sZ]
  refine wpList_run rfl (.bool false) (exec_move (.tmp 42) rfl _ rfl _) ?_
  simp only [Act.put, sT, sS, sZ]
  refine wpList_runH (.bool true) (exec_move (.tmp 8) rfl _ rfl _) ?_ (by rfl)
  simp only [Act.put, sT, sS, sZ]
  refine wpList_runH (.bool false) (exec_notv (.tmp 44) rfl _ rfl false rfl _) ?_ (by rfl)
  simp only [Act.put, sT, sS, sZ]
  refine wpList_run rfl (.bool false) (exec_pickf (.tmp 43) (.const (.bool true)) (.tmp 45) rfl rfl _ rfl _) ?_
  simp only [Act.put, sT, sS, sZ]
  refine wpList_run rfl (.bool false) (exec_move (.tmp 46) rfl _ rfl _) ?_
  simp only [Act.put, sT, sS, sZ]
  refine wpList_runH (.agg PP10) (exec_load_of _ 26 (.tmp 9) rfl ⟨g32, 0, none⟩ rfl _ (loadT26 IPP10 (HS35.out.get (g32) PP10 26 (by simp)))) ?_ (by rfl)
  simp only [Act.put, sT, sS, sZ]
  refine wpList_callH (by rfl) 22 #[.tmp 48] #[26] rfl #[.agg PP10] en22 (HC11.out _) ?_
  rintro v w36 ⟨he, hb⟩
  cases he
  have HS37 := Lib.hid (HS35.out.below hb)
  clear hb HS35
  simp only [Act.put, sT, sS, sZ]
  refine wpList_runH (.string ⟨(m ++ [b]).toArray⟩) (exec_move (.tmp 0) rfl _ rfl _) ?_ (by rfl)
  simp only [Act.put, sT, sS, sZ]
  refine wpList_runH (.bool true) (exec_ne9_diff (.tmp 49) (.tmp 50) rfl ⟨(m ++ [c]).toArray⟩ ⟨(m ++ [b]).toArray⟩ hne.out rfl rfl _) ?_ (by rfl)
  simp only [Act.put, sT, sS, sZ]
  refine wpList_run rfl (.bool true) (exec_pickf (.tmp 47) (.const (.bool true)) (.tmp 51) rfl rfl _ rfl _) ?_
  simp only [Act.put, sT, sS, sZ]
  refine wpList_nil ?_
  have HS38 : Hid (Kt w [(w.heap.size, ZR2, 26)] w36) := Lib.hid (HS37.out.sub (fun p hp => by simp at hp; subst hp; simp))
  clear HS37
  go_upto_region 11 with fail
  refine wp_region_list ?_
  refine wpList_run rfl (.agg PP13) (exec_buildN _ 26 #[] rfl #[] (by simp [Act.eval]) _ (BF12 _)) ?_
  simp only [Act.put, sT, sS, sZ]
  refine wpList_run0 rfl (exec_storeT26 _ (.tmp 2) (.tmp 53) rfl (w.heap.size) rfl PP13 IPP13 rfl ZR2 26 (HS38.out.get (w.heap.size) ZR2 26 (by simp)) SZZR2) ?_
  simp only [Act.put, sT, sS, sZ]
  have HS40 : Hid (Kt w [(w.heap.size, PP13, 26)] (w36.setRow (w.heap.size) PP13)) := Lib.hid (HS38.out.set (w.heap.size) PP13 ZR2 26 (HS38.out.get (w.heap.size) ZR2 26 (by simp)) (by omega) (fun p hp => by simp at hp; subst hp; exact .inl rfl))
  clear HS38
  generalize w36.setRow (w.heap.size) PP13 = w39 at *
  refine wpList_run rfl (.bool false) (exec_assign (.const (.bool false)) rfl _ rfl _) ?_
  simp only [Act.put, sT, sS, sZ]
  refine wpList_nil ?_
  go_wp2
  exact bodyPost_ret (results_two rfl _ _ _ ⟨w.heap.size, 0, none⟩ rfl _ (loadT26 IPP13 (HS40.out.get (w.heap.size) PP13 26 (by simp)))) rfl ⟨rfl, HS40.out.1⟩
end Go.Proofs.YtgbliacncahooaaDoor
