/- Several texts, one behind the other; each says by itself what it proves, and on what conditions. -/
import Derived.Test.YtdajmekliodmcaaGreatDoorK25
import Derived.Test.YtdajmekliodmcaaGreatDoorK27
import Derived.Test.YtdajmekliodmcaaGreatDoorRows
import Derived.WalkKit
import Derived.WalkSpells
import Derived.WalkLawsBesides
import Derived.Handy
import Derived.Lib.Hide
import Derived.RegionTactic
import Derived.Maps.AppendAt
import Derived.Outline
import Derived.BigQuiet
import Derived.Deep.QuietTactic
import Derived.OneCell
import Derived.Deep.RegionWith
import Derived.Deep.RegionHeld3
import Derived.Deep.DeepCutAuto
import Derived.Deep.CutBlock
import Derived.OrdersHeld
import Derived.Still
import Derived.StillTail
import Derived.KernelRfl
import GoSem.Op.String
namespace Go.Proofs.YtdajmekliodmcaaGreatDoor.P8
open Go.RowKit Go.Shelf
set_option linter.unusedVariables false
set_option linter.unusedSimpArgs false
theorem fromU_eq (y : Nat) : mulF (subF (mulF (y) (y)) (1)) (invF (addF (1) (mulF (dN) (mulF (y) (y))))) = fromU y := by unfold fromU; rw [addF_comm1]
set_option maxRecDepth 100000 in
set_option maxHeartbeats 2000000 in
theorem beside_any (y : Nat) (hy : y < 115792089237316195423570985008687907853269984665640564039457584007913129639936) (w : World) (hT0 : GlobT w) (hG0 : Glob w) :
    Calls Tryz.prog 88 #[.agg (num y)] w fun e w' => e = .returned (.tuple #[.agg (num (rootF (fromU y)).1), .bool (rootF (fromU y)).2]) ∧ Below w.heap.size w w' := by
  have HG := Lib.hid hG0
  have HT := Lib.hid hT0
  rw [← fromU_eq y]
  have HC3 := Lib.hid (mulf_any (y) (y) hy hy)
  have HC8 := Lib.hid (mulf_any (dN) (mulF (y) (y)) dN_b4 (pp_lt (mulF_lt _ _)))
  have HC10 := Lib.hid (addf_any (1) (mulF (dN) (mulF (y) (y))) (by decide) (pp_lt (mulF_lt _ _)))
  have HC12 := Lib.hid (subf_any (mulF (y) (y)) (1) (pp_lt (mulF_lt _ _)) (by decide))
  have HC14 := Lib.hid (inv_any (addF (1) (mulF (dN) (mulF (y) (y)))) (pp_lt (addF_lt _ _)))
  have HC16 := Lib.hid (mulf_any (subF (mulF (y) (y)) (1)) (invF (addF (1) (mulF (dN) (mulF (y) (y))))) (pp_lt (subF_lt _ _)) (pp_lt (invF_lt _)))
  have HC19 : Hid (∀ w, GlobT w → _) := Lib.hid (root_any (mulF (subF (mulF (y) (y)) (1)) (invF (addF (1) (mulF (dN) (mulF (y) (y)))))) (pp_lt (mulF_lt _ _)))
  obtain ⟨Y, hY⟩ : ∃ zz9, Hid (zz9 = num (y)) := ⟨_, Lib.hid rfl⟩
  have IY : IsNum Y := by rw [hY.out]; exact isNum _
  obtain ⟨NN1, hNN1⟩ : ∃ zz9, Hid (zz9 = num (0)) := ⟨_, Lib.hid rfl⟩
  have INN1 : IsNum NN1 := by rw [hNN1.out]; exact isNum _
  obtain ⟨NN2, hNN2⟩ : ∃ zz9, Hid (zz9 = num (mulF (y) (y))) := ⟨_, Lib.hid rfl⟩
  have INN2 : IsNum NN2 := by rw [hNN2.out]; exact isNum _
  obtain ⟨NN5, hNN5⟩ : ∃ zz9, Hid (zz9 = num (1)) := ⟨_, Lib.hid rfl⟩
  have INN5 : IsNum NN5 := by rw [hNN5.out]; exact isNum _
  obtain ⟨NN6, hNN6⟩ : ∃ zz9, Hid (zz9 = num (dN)) := ⟨_, Lib.hid rfl⟩
  have INN6 : IsNum NN6 := by rw [hNN6.out]; exact isNum _
  obtain ⟨NN7, hNN7⟩ : ∃ zz9, Hid (zz9 = num (mulF (dN) (mulF (y) (y)))) := ⟨_, Lib.hid rfl⟩
  have INN7 : IsNum NN7 := by rw [hNN7.out]; exact isNum _
  obtain ⟨NN9, hNN9⟩ : ∃ zz9, Hid (zz9 = num (addF (1) (mulF (dN) (mulF (y) (y))))) := ⟨_, Lib.hid rfl⟩
  have INN9 : IsNum NN9 := by rw [hNN9.out]; exact isNum _
  obtain ⟨NN11, hNN11⟩ : ∃ zz9, Hid (zz9 = num (subF (mulF (y) (y)) (1))) := ⟨_, Lib.hid rfl⟩
  have INN11 : IsNum NN11 := by rw [hNN11.out]; exact isNum _
  obtain ⟨NN13, hNN13⟩ : ∃ zz9, Hid (zz9 = num (invF (addF (1) (mulF (dN) (mulF (y) (y)))))) := ⟨_, Lib.hid rfl⟩
  have INN13 : IsNum NN13 := by rw [hNN13.out]; exact isNum _
  obtain ⟨NN15, hNN15⟩ : ∃ zz9, Hid (zz9 = num (mulF (subF (mulF (y) (y)) (1)) (invF (addF (1) (mulF (dN) (mulF (y) (y))))))) := ⟨_, Lib.hid rfl⟩
  have INN15 : IsNum NN15 := by rw [hNN15.out]; exact isNum _
  obtain ⟨NN17, hNN17⟩ : ∃ zz9, Hid (zz9 = num ((rootF (mulF (subF (mulF (y) (y)) (1)) (invF (addF (1) (mulF (dN) (mulF (y) (y))))))).1)) := ⟨_, Lib.hid rfl⟩
  have INN17 : IsNum NN17 := by rw [hNN17.out]; exact isNum _
  obtain ⟨bb18, hbb18⟩ : ∃ zz9, Hid (zz9 = (rootF (mulF (subF (mulF (y) (y)) (1)) (invF (addF (1) (mulF (dN) (mulF (y) (y))))))).2) := ⟨_, Lib.hid rfl⟩
  have HZ24 : ∀ w, (zeroValue 36).run Tryz.prog w = .ok (.agg NN1) w := by rw [hNN1.out]; exact zero_run
  have SZNN1 := INN1.size
  have BF4 : ∀ w, (Instr.build 36 #[(0, .int .u64 1)]).run Tryz.prog w = .ok (.agg NN5) w := by rw [hNN5.out]; exact build_run 1 (by decide)
  have LD : ∀ W, Below w.heap.size w W → (loadVar 36 ⟨2, 0, none⟩).run Tryz.prog W = .ok (.agg NN6) W := fun W hb => by rw [hNN6.out]; exact (HG.out.below hb).load
  try simp only [← hY.out, ← hNN1.out, ← hNN2.out, ← hNN5.out, ← hNN6.out, ← hNN7.out, ← hNN9.out, ← hNN11.out, ← hNN13.out, ← hNN15.out, ← hNN17.out, ← hbb18.out] at HC3 HC8 HC10 HC12 HC14 HC16 HC19 ⊢
  clear hY hNN1 hNN2 hNN5 hNN6 hNN7 hNN9 hNN11 hNN13 hNN15 hNN17 hbb18 hy hG0 hT0
  go_enter Tryz.func88, Tryz.ntmps88
  have HS : Hid (Kt w [] w) := Lib.hid (Kt.nil w)
  go_upto_region 0 with fail
  refine wp_region_list ?_
  refine wpList_run rfl _ (exec_box _ 36 (.tmp 0) rfl _ rfl (Y) rfl) ?_
  simp only [Act.put, sT, sS, sZ]
  have bg3 := HS.out.1.size
  have HS2 := Lib.hid (HS.out.new Y 36)
  clear HS
  generalize w.alloc (.cells Y 36) = w1 at *
  refine wpList_run rfl _ (exec_alloc_agg _ 36 rfl _ (HZ24 _)) ?_
  simp only [Act.put, sT, sS, sZ]
  have lg6_0 := HS2.out.lt (w.heap.size) Y 36 (by simp)
  have bg6 := HS2.out.1.size
  have HS5 := Lib.hid (HS2.out.new NN1 36)
  clear HS2
  generalize w1.alloc (.cells NN1 36) = w4 at *
  generalize w1.heap.size = g6 at *
  refine wpList_run rfl (.bool false) (exec_assign (.const (.bool false)) rfl _ rfl _) ?_
  simp only [Act.put, sT, sS, sZ]
  refine wpList_nil ?_
  go_upto_region 1 with fail
  refine wp_region_list ?_
  refine wpList_run rfl (.agg Y) (exec_load_of _ 36 (.tmp 1) rfl ⟨w.heap.size, 0, none⟩ rfl _ (loadA24 IY (HS5.out.get (w.heap.size) Y 36 (by simp)))) ?_
  simp only [Act.put, sT, sS, sZ]
  refine wpList_run rfl (.agg Y) (exec_load_of _ 36 (.tmp 1) rfl ⟨w.heap.size, 0, none⟩ rfl _ (loadA24 IY (HS5.out.get (w.heap.size) Y 36 (by simp)))) ?_
  simp only [Act.put, sT, sS, sZ]
  refine wpList_callF rfl 130 #[.tmp 6, .tmp 7] #[36, 36] rfl #[.agg Y, .agg Y] en40 (HC3.out _) ?_
  rintro v w7 ⟨he, hb⟩
  cases he
  have HS8 := Lib.hid (HS5.out.below hb)
  clear hb HS5
  simp only [Act.put, sT, sS, sZ]
  refine wpList_run rfl _ (exec_alloc_agg _ 36 rfl _ (HZ24 _)) ?_
  simp only [Act.put, sT, sS, sZ]
  have lg11_0 := HS8.out.lt (g6) NN1 36 (by simp)
  have lg11_1 := HS8.out.lt (w.heap.size) Y 36 (by simp)
  have bg11 := HS8.out.1.size
  have HS10 := Lib.hid (HS8.out.new NN1 36)
  clear HS8
  generalize w7.alloc (.cells NN1 36) = w9 at *
  generalize w7.heap.size = g11 at *
  refine wpList_run0 rfl (exec_store24 _ (.tmp 4) (.tmp 8) rfl (g11) rfl NN2 INN2 rfl NN1 36 (HS10.out.get (g11) NN1 36 (by simp)) SZNN1) ?_
  simp only [Act.put, sT, sS, sZ]
  have HS13 : Hid (Kt w [(g11, NN2, 36), (g6, NN1, 36), (w.heap.size, Y, 36)] (w9.setRow (g11) NN2)) := Lib.hid (HS10.out.set (g11) NN2 NN1 36 (HS10.out.get (g11) NN1 36 (by simp)) (by omega) (fun p hp => by simp at hp; rcases hp with rfl | rfl | rfl <;> first | exact .inl rfl | exact .inr ⟨by simp, by simp only; omega⟩))
  clear HS10
  generalize w9.setRow (g11) NN2 = w12 at *
  refine wpList_nil ?_
  have HS14 : Hid (Kt w [(g11, NN2, 36), (g6, NN1, 36)] w12) := Lib.hid (HS13.out.sub (fun p hp => by simp at hp; rcases hp with rfl | rfl <;> simp))
  clear HS13
  go_upto_region 2 with fail
  refine wp_region_list ?_
  refine wpList_run rfl (.agg NN5) (exec_buildN _ 36 #[(0, .const (.int .u64 1))] rfl #[(0, .int .u64 1)] (by simp [Act.eval]) _ (BF4 _)) ?_
  simp only [Act.put, sT, sS, sZ]
  refine wpList_run rfl (.agg NN6) (exec_load_of _ 36 (.global 2) rfl ⟨2, 0, none⟩ rfl _ (LD _ (HS14.out.1))) ?_
  simp only [Act.put, sT, sS, sZ]
  refine wpList_run rfl (.agg NN2) (exec_load_of _ 36 (.tmp 4) rfl ⟨g11, 0, none⟩ rfl _ (loadA24 INN2 (HS14.out.get (g11) NN2 36 (by simp)))) ?_
  simp only [Act.put, sT, sS, sZ]
  refine wpList_callF rfl 130 #[.tmp 10, .tmp 11] #[36, 36] rfl #[.agg NN6, .agg NN2] en40 (HC8.out _) ?_
  rintro v w15 ⟨he, hb⟩
  cases he
  have HS16 := Lib.hid (HS14.out.below hb)
  clear hb HS14
  simp only [Act.put, sT, sS, sZ]
  refine wpList_callF rfl 131 #[.tmp 9, .tmp 12] #[36, 36] rfl #[.agg NN5, .agg NN7] en41 (HC10.out _) ?_
  rintro v w17 ⟨he, hb⟩
  cases he
  have HS18 := Lib.hid (HS16.out.below hb)
  clear hb HS16
  simp only [Act.put, sT, sS, sZ]
  refine wpList_run rfl _ (exec_alloc_agg _ 36 rfl _ (HZ24 _)) ?_
  simp only [Act.put, sT, sS, sZ]
  have lg21_0 := HS18.out.lt (g11) NN2 36 (by simp)
  have lg21_1 := HS18.out.lt (g6) NN1 36 (by simp)
  have bg21 := HS18.out.1.size
  have HS20 := Lib.hid (HS18.out.new NN1 36)
  clear HS18
  generalize w17.alloc (.cells NN1 36) = w19 at *
  generalize w17.heap.size = g21 at *
  refine wpList_run0 rfl (exec_store24 _ (.tmp 5) (.tmp 13) rfl (g21) rfl NN9 INN9 rfl NN1 36 (HS20.out.get (g21) NN1 36 (by simp)) SZNN1) ?_
  simp only [Act.put, sT, sS, sZ]
  have HS23 : Hid (Kt w [(g21, NN9, 36), (g11, NN2, 36), (g6, NN1, 36)] (w19.setRow (g21) NN9)) := Lib.hid (HS20.out.set (g21) NN9 NN1 36 (HS20.out.get (g21) NN1 36 (by simp)) (by omega) (fun p hp => by simp at hp; rcases hp with rfl | rfl | rfl <;> first | exact .inl rfl | exact .inr ⟨by simp, by simp only; omega⟩))
  clear HS20
  generalize w19.setRow (g21) NN9 = w22 at *
  refine wpList_nil ?_
  go_upto_region 3 with fail
  refine wp_cut (fun a' W' => a' = { tmps := #[.agg Y, .pointer (some ⟨w.heap.size, 0, none⟩), .pointer (some ⟨g6, 0, none⟩), .bool bb18, .pointer (some ⟨g11, 0, none⟩), .pointer (some ⟨g21, 0, none⟩), .agg Y, .agg Y, .agg NN2, .agg NN5, .agg NN6, .agg NN2, .agg NN7, .agg NN9, .agg NN2, .agg NN5, .agg NN11, .agg NN9, .agg NN13, .agg NN15, .tuple #[.agg NN17, .bool bb18], .agg NN17, .bool bb18], defers := [] } ∧ Kt w [(g6, NN17, 36)] W') ?_ ?_
  · refine wp_region_any (by kernel_rfl) ?_
    change wpAny _ _ _ _ _ _ _ (World.drew _)
    have HDq24x1 := HS23.out.drew
    clear HS23
    generalize w22.drew = wdq24x2 at *
    refine any_of_F (S := Kt w [(g21, NN9, 36), (g11, NN2, 36), (g6, NN1, 36)]) (f := 9) _ _ _ _ ?_
    refine tkL 0 (some 14) (.load 36 (.tmp 4)) (.agg NN2) (fun o ho w2 hw => exec_load_of _ 36 (.tmp 4) ho ⟨g11, 0, none⟩ rfl _ (loadA24 INN2 (hw.get (g11) NN2 36 (by simp)))) HDq24x1 ?_
    simp only [Act.put, sT, sS, sZ]
    refine tkL 1 (some 15) (.build 36 #[(0, .const (.int .u64 1))]) (.agg NN5) (fun o ho w2 hw => exec_buildN _ 36 #[(0, .const (.int .u64 1))] ho #[(0, .int .u64 1)] (by simp [Act.eval]) _ (BF4 _)) HDq24x1 ?_
    simp only [Act.put, sT, sS, sZ]
    refine tkL 3 (some 17) (.load 36 (.tmp 5)) (.agg NN9) (fun o ho w2 hw => exec_load_of _ 36 (.tmp 5) ho ⟨g21, 0, none⟩ rfl _ (loadA24 INN9 (hw.get (g21) NN9 36 (by simp)))) HDq24x1 ?_
    simp only [Act.put, sT, sS, sZ]
    refine rdy [2] (rcl (some 16) 89 #[.tmp 14, .tmp 15] #[36, 36] #[.agg NN2, .agg NN5] en30 _ (HC12.out _) ?_ ReadyF.nil)
    rintro v wq24x11 ⟨he, hb⟩
    cases he
    have Hq24x12 := HDq24x1.below hb
    clear hb
    refine ⟨Hq24x12, ?_⟩
    simp only [Act.put, sT, sS, sZ]
    refine rdy [4] (rcl (some 18) 133 #[.tmp 17] #[36] #[.agg NN9] en53 _ (HC14.out _) ?_ ReadyF.nil)
    rintro v wq24x13 ⟨he, hb⟩
    cases he
    have Hq24x14 := Hq24x12.below hb
    clear hb
    refine ⟨Hq24x14, ?_⟩
    simp only [Act.put, sT, sS, sZ]
    refine rdy [5] (rcl (some 19) 130 #[.tmp 16, .tmp 18] #[36, 36] #[.agg NN11, .agg NN13] en40 _ (HC16.out _) ?_ ReadyF.nil)
    rintro v wq24x15 ⟨he, hb⟩
    cases he
    have Hq24x16 := Hq24x14.below hb
    clear hb
    refine ⟨Hq24x16, ?_⟩
    simp only [Act.put, sT, sS, sZ]
    refine rdy [6] (rcl (some 20) 132 #[.tmp 19] #[36] #[.agg NN15] en52 _ (HC19.out _ (HT.out.below Hq24x16.1)) ?_ ReadyF.nil)
    rintro v wq24x17 ⟨he, hb⟩
    cases he
    have Hq24x18 := Hq24x16.below hb
    clear hb
    refine ⟨Hq24x18, ?_⟩
    simp only [Act.put, sT, sS, sZ]
    refine tkL 7 (some 21) (.extract (.tmp 20) 0) (.agg NN17) (fun o ho w2 hw => exec_extract (.tmp 20) 0 ho _ _ rfl rfl w2) Hq24x18 ?_
    simp only [Act.put, sT, sS, sZ]
    refine tkL 8 (some 22) (.extract (.tmp 20) 1) (.bool bb18) (fun o ho w2 hw => exec_extract (.tmp 20) 1 ho _ _ rfl rfl w2) Hq24x18 ?_
    simp only [Act.put, sT, sS, sZ]
    refine rdy [9] (ReadyF.last (.store 36 (.tmp 2) (.tmp 21)) rfl (fun o ho => exec_store24 wq24x17 (.tmp 2) (.tmp 21) ho (g6) rfl NN17 INN17 rfl NN1 36 (Hq24x18.get (g6) NN1 36 (by simp)) SZNN1) ?_ ReadyF.nil)
    refine any_one 10 (some 3) (.assign (.tmp 22)) (by kernel_rfl) rfl (.bool bb18) (fun o ho => exec_assign (.tmp 22) ho _ rfl _) ?_
    simp only [Act.put, sT, sS, sZ]
    refine any_doneF (by kernel_rfl) ?_ _
    have Hq24x19 : Kt w [(g21, NN9, 36), (g11, NN2, 36), (g6, NN17, 36)] (wq24x17.setRow (g6) NN17) := Hq24x18.set (g6) NN17 NN1 36 (Hq24x18.get (g6) NN1 36 (by simp)) (by omega) (fun p hp => by simp at hp; rcases hp with rfl | rfl | rfl <;> first | exact .inl rfl | exact .inr ⟨by simp, by simp only; omega⟩)
    refine nrm_intro ⟨rfl, Hq24x19.sub (fun p hp => by simp at hp; subst hp; simp)⟩
  rintro a' w25 ⟨rfl, hk⟩
  have HS26 := Lib.hid hk
  clear hk HS23
  go_wp2
  exact bodyPost_ret (results_two rfl _ _ _ ⟨g6, 0, none⟩ rfl _ (loadA24 INN17 (HS26.out.get (g6) NN17 36 (by simp)))) rfl ⟨rfl, HS26.out.1⟩
theorem exec_ne9_same {ρ : Operand → Value} {o : Oper} (x y : Operand) (ho : o.op = .binOp .neq 9 x y 9) (s : ByteArray) (hx : ρ x = .string s) (hy : ρ y = .string s) (w : World) : (execOp ρ o).run Tryz.prog w = .ok (.value (.bool false)) w := by
  unfold execOp
  rw [ho]
  simp only [hx, hy]
  go_simp
theorem fromF_parts (m : List UInt8) (c : UInt8) (hm : m.length = 31) : fromF ((⟨(m ++ [c]).toArray⟩ : ByteArray).data.toList) = if leVal m + c.toNat * 256 ^ 31 < pp then (leVal m + c.toNat * 256 ^ 31, true) else (0, false) := by
  show fromF (m ++ [c]) = _
  unfold fromF
  rw [leVal_snoc, hm, len31 c hm]
  simp
set_option maxRecDepth 100000 in
set_option maxHeartbeats 2000000 in
theorem from_d0 (m : List UInt8) (b c : UInt8) (hm : m.length = 31) (hcb : c.toNat = b.toNat % 128) (han1 : bits .andNot .u8 (b.toNat : Int) 128 = (c.toNat : Int)) (y : Nat) (hy : y = leVal m + c.toNat * 256 ^ 31) (hyp : y < pp) (hth : (rootF (fromU y)).2 = true) (hq : b.toNat < 128) (w : World) (hT0 : GlobT w) (hG0 : Glob w) :
    Calls Tryz.prog 44 #[.string ⟨(m ++ [b]).toArray⟩] w fun e w' => e = .returned (.tuple #[.agg (num ((rootF (fromU y)).1) ++ num y), .bool true]) ∧ Below w.heap.size w w' := by
  have HG := Lib.hid hG0
  have HT := Lib.hid hT0
  have han := Lib.hid han1
  have HF := Lib.hid (from_any ⟨(m ++ [c]).toArray⟩ (by show (m ++ [c]).length ≤ _; rw [len31 c hm]; decide))
  rw [fromF_parts m c hm, ← hy, if_pos hyp] at HF
  have hlen : Hid ((⟨(m ++ [b]).toArray⟩ : ByteArray).size = 32) := Lib.hid (len31 b hm)
  have hnb : Hid (false = !(((32 : Nat) : Int) == 32)) := Lib.hid (by decide)
  have hgb : Hid (decide ((128 : Int) ≤ (b.toNat : Int)) = false) := Lib.hid (by simp; omega)
  have hE : bytesN (encP ((rootF (fromU (y))).1, y)) = m ++ [b] := by
    rw [enc_even (rootF_even _), hy, bytes_join m c hm, show c = b from UInt8.toNat_inj.1 (by omega)]
  have HC5 : Hid (∀ w, GlobT w → Glob w → _) := Lib.hid (beside_any (y) (pp_lt hyp))
  rw [hth] at HC5
  have HC8 := Lib.hid (bytes_pt ((rootF (fromU (y))).1) (y) (pp_lt (rootF_lt _)) hyp)
  rw [hE] at HC8
  obtain ⟨NN1, hNN1⟩ : ∃ zz9, Hid (zz9 = num (y)) := ⟨_, Lib.hid rfl⟩
  have INN1 : IsNum NN1 := by rw [hNN1.out]; exact isNum _
  obtain ⟨ZR2, hZR2⟩ : ∃ zz9, Hid (zz9 = (rowOf .u64 8 (fun _ => 0)).toArray) := ⟨_, Lib.hid rfl⟩
  have SZZR2 : ZR2.size = 8 := by rw [hZR2.out]; rfl
  obtain ⟨NN3, hNN3⟩ : ∃ zz9, Hid (zz9 = num (0)) := ⟨_, Lib.hid rfl⟩
  have INN3 : IsNum NN3 := by rw [hNN3.out]; exact isNum _
  obtain ⟨NN4, hNN4⟩ : ∃ zz9, Hid (zz9 = num ((rootF (fromU (y))).1)) := ⟨_, Lib.hid rfl⟩
  have INN4 : IsNum NN4 := by rw [hNN4.out]; exact isNum _
  obtain ⟨PP7, hPP7⟩ : ∃ zz9, Hid (zz9 = NN4 ++ NN1) := ⟨_, Lib.hid rfl⟩
  have IPP7 : IsRw 8 PP7 := by rw [hPP7.out]; exact rw_app (isRw4 INN4) (isRw4 INN1)
  have SPP7_0 : Part PP7 0 NN4 := by rw [hPP7.out]; exact part_left 0 (part_all NN4) NN1
  have SPP7_4 : Part PP7 4 NN1 := by rw [hPP7.out]; exact part_right (NN4) NN1 4 (by simp [INN4.size])
  have HZ26 : ∀ w, (zeroValue 60).run Tryz.prog w = .ok (.agg ZR2) w := by rw [hZR2.out]; exact zeroT26
  have HZ24 : ∀ w, (zeroValue 36).run Tryz.prog w = .ok (.agg NN3) w := by rw [hNN3.out]; exact zero_run
  have SZNN3 := INN3.size
  have BF6 : ∀ w, (Instr.build 60 #[(0, .agg NN4), (1, .agg NN1)]).run Tryz.prog w = .ok (.agg PP7) w := by rw [hPP7.out]; exact bp01 INN4 INN1
  try simp only [← hNN1.out, ← hNN3.out, ← hNN4.out] at HC5 HC8 HF ⊢
  try simp only [← hZR2.out, ← hPP7.out] at HC5 HC8 HF ⊢
  clear hNN1 hZR2 hNN3 hNN4 hPP7 hcb han1 hy hyp hG0 hT0 hth hE hq
  go_enter Tryz.func44, Tryz.ntmps44
  have HS : Hid (Kt w [] w) := Lib.hid (Kt.nil w)
  go_upto_region 0 with fail
  refine wp_region_list ?_
  refine wpList_run rfl _ (exec_alloc_agg _ 60 rfl _ (HZ26 _)) ?_
  simp only [Act.put, sT, sS, sZ]
  have bg3 := HS.out.1.size
  have HS2 := Lib.hid (HS.out.new ZR2 60)
  clear HS
  generalize w.alloc (.cells ZR2 60) = w1 at *
  refine wpList_run rfl (.bool false) (exec_assign (.const (.bool false)) rfl _ rfl _) ?_
  simp only [Act.put, sT, sS, sZ]
  refine wpList_nil ?_
  go_upto_region 1 with fail
  refine wp_region_list ?_
  refine wpList_run rfl (.string ⟨(m ++ [b]).toArray⟩) (exec_move (.tmp 0) rfl _ rfl _) ?_
  simp only [Act.put, sT, sS, sZ]
  refine wpList_run rfl (.int .i64 (32 : Int)) (exec_len9 (.tmp 10) rfl ⟨(m ++ [b]).toArray⟩ 32 hlen.out rfl _) ?_
  simp only [Act.put, sT, sS, sZ]
  refine wpList_run rfl (.bool false) (exec_neq32 (.tmp 11) rfl rfl 32 false hnb.out rfl _) ?_
  simp only [Act.put, sT, sS, sZ]
  refine wpList_nil ?_
  go_upto_region 3 with fail
  refine wp_region_list ?_
  refine wpList_run rfl (.string ⟨(m ++ [b]).toArray⟩) (exec_move (.tmp 0) rfl _ rfl _) ?_
  simp only [Act.put, sT, sS, sZ]
  obtain ⟨cap8, w4, hcv, hbf, hbl, hlt⟩ := conv_buf w1 (m ++ [b]) (len31 b hm)
  refine wpList_run rfl _ (exec_convG 9 33 (.tmp 14) rfl _ rfl _ _ _ hcv) ?_
  simp only [Act.put, sT, sS, sZ]
  have lgb6_0 := HS2.out.lt (w.heap.size) ZR2 60 (by simp)
  have bgb6 := HS2.out.1.size
  have HS5 := Lib.hid (HS2.out.below hbl)
  have HB7 := Lib.hid hbf
  clear HS2 hcv hbf hbl
  generalize w1.heap.size = gb6 at *
  refine wpList_run rfl (.slice (some ⟨gb6, 0, none⟩) 32 cap8) (exec_assign (.tmp 15) rfl _ rfl _) ?_
  simp only [Act.put, sT, sS, sZ]
  refine wpList_nil ?_
  go_upto_region 4 with fail
  refine wp_region_list ?_
  refine wpList_run rfl (.slice (some ⟨gb6, 0, none⟩) 32 cap8) (exec_move (.tmp 4) rfl _ rfl _) ?_
  simp only [Act.put, sT, sS, sZ]
  refine wpList_run rfl (.pointer (some ⟨gb6, 31, none⟩)) (exec_index44 (.tmp 16) rfl rfl (gb6) cap8 rfl _) ?_
  simp only [Act.put, sT, sS, sZ]
  refine wpList_run rfl (.int .u8 (b.toNat : Int)) (exec_load_one _ 5 (.tmp 17) rfl ⟨gb6, 31, none⟩ rfl _ (HB7.out.cell31 hm) _ Tryz.underlying5 rfl) ?_
  simp only [Act.put, sT, sS, sZ]
  refine wpList_run rfl (.int .u8 (c.toNat : Int)) (exec_andNot128 (.tmp 18) rfl rfl b c han.out rfl _) ?_
  simp only [Act.put, sT, sS, sZ]
  refine wpList_run rfl (.pointer (some ⟨gb6, 31, none⟩)) (exec_index44 (.tmp 16) rfl rfl (gb6) cap8 rfl _) ?_
  simp only [Act.put, sT, sS, sZ]
  refine wpList_run0 rfl (exec_store31 _ (.tmp 20) (.tmp 19) rfl (gb6) rfl c rfl HB7.out hm) ?_
  simp only [Act.put, sT, sS, sZ]
  have HS10 := Lib.hid (HS5.out.cellOther (gb6) 31 (.int .u8 (c.toNat : Int)) (by omega) (fun p hp => by simp at hp; subst hp; simp only; omega))
  have HB11 := Lib.hid (HB7.out.set hm c)
  clear HS5 HB7
  generalize w4.setCell ⟨gb6, 31, none⟩ (.int .u8 (c.toNat : Int)) = w9 at *
  refine wpList_nil ?_
  go_upto_region 5 with fail
  refine wp_region_list ?_
  refine wpList_run rfl (.slice (some ⟨gb6, 0, none⟩) 32 cap8) (exec_move (.tmp 4) rfl _ rfl _) ?_
  simp only [Act.put, sT, sS, sZ]
  refine wpList_run rfl (.string ⟨(m ++ [c]).toArray⟩) (exec_convG 33 9 (.tmp 22) rfl _ rfl _ _ _ (HB11.out.str (len31 c hm))) ?_
  simp only [Act.put, sT, sS, sZ]
  refine wpList_callF rfl 87 #[.tmp 23] #[9] rfl #[.string ⟨(m ++ [c]).toArray⟩] en28 (HF.out _) ?_
  rintro v w12 ⟨he, hb⟩
  cases he
  have HS13 := Lib.hid (HS10.out.below hb)
  clear hb HS10
  simp only [Act.put, sT, sS, sZ]
  refine wpList_run rfl (.tuple #[.agg NN1, .bool true]) (exec_move (.tmp 24) rfl _ rfl _) ?_
  simp only [Act.put, sT, sS, sZ]
  refine wpList_run rfl (.agg NN1) (exec_extract (.tmp 21) 0 rfl _ _ rfl rfl _) ?_
  simp only [Act.put, sT, sS, sZ]
  refine wpList_run rfl (.bool true) (exec_extract (.tmp 21) 1 rfl _ _ rfl rfl _) ?_
  simp only [Act.put, sT, sS, sZ]
  refine wpList_run rfl _ (exec_alloc_agg _ 36 rfl _ (HZ24 _)) ?_
  simp only [Act.put, sT, sS, sZ]
  have lg16_0 := HS13.out.lt (w.heap.size) ZR2 60 (by simp)
  have bg16 := HS13.out.1.size
  have HS15 := Lib.hid (HS13.out.new NN3 36)
  clear HS13
  generalize w12.alloc (.cells NN3 36) = w14 at *
  generalize w12.heap.size = g16 at *
  refine wpList_run0 rfl (exec_store24 _ (.tmp 5) (.tmp 25) rfl (g16) rfl NN1 INN1 rfl NN3 36 (HS15.out.get (g16) NN3 36 (by simp)) SZNN3) ?_
  simp only [Act.put, sT, sS, sZ]
  have HS18 : Hid (Kt w [(g16, NN1, 36), (w.heap.size, ZR2, 60)] (w14.setRow (g16) NN1)) := Lib.hid (HS15.out.set (g16) NN1 NN3 36 (HS15.out.get (g16) NN3 36 (by simp)) (by omega) (fun p hp => by simp at hp; rcases hp with rfl | rfl <;> first | exact .inl rfl | exact .inr ⟨by simp, by simp only; omega⟩))
  clear HS15
  generalize w14.setRow (g16) NN1 = w17 at *
  refine wpList_run rfl (.bool true) (exec_assign (.tmp 26) rfl _ rfl _) ?_
  simp only [Act.put, sT, sS, sZ]
  refine wpList_nil ?_
  go_upto_region 6 with fail
  refine wp_region_list ?_
  refine wpList_run rfl (.agg NN1) (exec_load_of _ 36 (.tmp 5) rfl ⟨g16, 0, none⟩ rfl _ (loadA24 INN1 (HS18.out.get (g16) NN1 36 (by simp)))) ?_
  simp only [Act.put, sT, sS, sZ]
  refine wpList_callF rfl 88 #[.tmp 28] #[36] rfl #[.agg NN1] en29 (HC5.out _ (HT.out.below HS18.out.1) (HG.out.below HS18.out.1)) ?_
  rintro v w19 ⟨he, hb⟩
  cases he
  have HS20 := Lib.hid (HS18.out.below hb)
  clear hb HS18
  simp only [Act.put, sT, sS, sZ]
  refine wpList_run rfl (.tuple #[.agg NN4, .bool true]) (exec_move (.tmp 29) rfl _ rfl _) ?_
  simp only [Act.put, sT, sS, sZ]
  refine wpList_run rfl (.agg NN4) (exec_extract (.tmp 27) 0 rfl _ _ rfl rfl _) ?_
  simp only [Act.put, sT, sS, sZ]
  refine wpList_run rfl (.bool true) (exec_extract (.tmp 27) 1 rfl _ _ rfl rfl _) ?_
  simp only [Act.put, sT, sS, sZ]
  refine wpList_run rfl _ (exec_alloc_agg _ 36 rfl _ (HZ24 _)) ?_
  simp only [Act.put, sT, sS, sZ]
  have lg23_0 := HS20.out.lt (g16) NN1 36 (by simp)
  have lg23_1 := HS20.out.lt (w.heap.size) ZR2 60 (by simp)
  have bg23 := HS20.out.1.size
  have HS22 := Lib.hid (HS20.out.new NN3 36)
  clear HS20
  generalize w19.alloc (.cells NN3 36) = w21 at *
  generalize w19.heap.size = g23 at *
  refine wpList_run0 rfl (exec_store24 _ (.tmp 7) (.tmp 30) rfl (g23) rfl NN4 INN4 rfl NN3 36 (HS22.out.get (g23) NN3 36 (by simp)) SZNN3) ?_
  simp only [Act.put, sT, sS, sZ]
  have HS25 : Hid (Kt w [(g23, NN4, 36), (g16, NN1, 36), (w.heap.size, ZR2, 60)] (w21.setRow (g23) NN4)) := Lib.hid (HS22.out.set (g23) NN4 NN3 36 (HS22.out.get (g23) NN3 36 (by simp)) (by omega) (fun p hp => by simp at hp; rcases hp with rfl | rfl | rfl <;> first | exact .inl rfl | exact .inr ⟨by simp, by simp only; omega⟩))
  clear HS22
  generalize w21.setRow (g23) NN4 = w24 at *
  refine wpList_run rfl (.bool true) (exec_assign (.tmp 31) rfl _ rfl _) ?_
  simp only [Act.put, sT, sS, sZ]
  refine wpList_nil ?_
  go_upto_region 7 with fail
  refine wp_region_list ?_
  refine wpList_run rfl (.string ⟨(m ++ [b]).toArray⟩) (exec_move (.tmp 0) rfl _ rfl _) ?_
  simp only [Act.put, sT, sS, sZ]
  refine wpList_run rfl (.int .u8 (b.toNat : Int)) (exec_index31 (.tmp 32) rfl rfl m b hm rfl _) ?_
  simp only [Act.put, sT, sS, sZ]
  refine wpList_run rfl (.bool false) (exec_geq128 (.tmp 33) rfl rfl b.toNat false hgb.out rfl _) ?_
  simp only [Act.put, sT, sS, sZ]
  refine wpList_nil ?_
  go_upto_region 9 with fail
  refine wp_region_list ?_
  refine wpList_run rfl (.agg NN4) (exec_load_of _ 36 (.tmp 7) rfl ⟨g23, 0, none⟩ rfl _ (loadA24 INN4 (HS25.out.get (g23) NN4 36 (by simp)))) ?_
  simp only [Act.put, sT, sS, sZ]
  refine wpList_run rfl (.agg NN1) (exec_load_of _ 36 (.tmp 5) rfl ⟨g16, 0, none⟩ rfl _ (loadA24 INN1 (HS25.out.get (g16) NN1 36 (by simp)))) ?_
  simp only [Act.put, sT, sS, sZ]
  refine wpList_run rfl (.agg PP7) (exec_buildN _ 60 #[(0, .tmp 38), (1, .tmp 39)] rfl #[(0, .agg NN4), (1, .agg NN1)] (by simp [Act.eval]) _ (BF6 _)) ?_
  simp only [Act.put, sT, sS, sZ]
  refine wpList_run rfl _ (exec_alloc_agg _ 60 rfl _ (HZ26 _)) ?_
  simp only [Act.put, sT, sS, sZ]
  have lg28_0 := HS25.out.lt (g23) NN4 36 (by simp)
  have lg28_1 := HS25.out.lt (g16) NN1 36 (by simp)
  have lg28_2 := HS25.out.lt (w.heap.size) ZR2 60 (by simp)
  have bg28 := HS25.out.1.size
  have HS27 := Lib.hid (HS25.out.new ZR2 60)
  clear HS25
  generalize w24.alloc (.cells ZR2 60) = w26 at *
  generalize w24.heap.size = g28 at *
  refine wpList_run0 rfl (exec_storeT26 _ (.tmp 9) (.tmp 40) rfl (g28) rfl PP7 IPP7 rfl ZR2 60 (HS27.out.get (g28) ZR2 60 (by simp)) SZZR2) ?_
  simp only [Act.put, sT, sS, sZ]
  have HS30 : Hid (Kt w [(g28, PP7, 60), (g23, NN4, 36), (g16, NN1, 36), (w.heap.size, ZR2, 60)] (w26.setRow (g28) PP7)) := Lib.hid (HS27.out.set (g28) PP7 ZR2 60 (HS27.out.get (g28) ZR2 60 (by simp)) (by omega) (fun p hp => by simp at hp; rcases hp with rfl | rfl | rfl | rfl <;> first | exact .inl rfl | exact .inr ⟨by simp, by simp only; omega⟩))
  clear HS27
  generalize w26.setRow (g28) PP7 = w29 at *
  refine wpList_nil ?_
  have HS31 : Hid (Kt w [(g28, PP7, 60), (w.heap.size, ZR2, 60)] w29) := Lib.hid (HS30.out.sub (fun p hp => by simp at hp; rcases hp with rfl | rfl <;> simp))
  clear HS30
  go_upto_region 10 with fail
  refine wp_region_list ?_
  refine wpList_run rfl (.bool true) (exec_move (.tmp 6) rfl _ rfl _) ?_
  simp only [Act.put, sT, sS, sZ]
  refine wpList_run rfl (.bool false) (exec_notv (.tmp 41) rfl _ rfl false rfl _) ?_
  simp only [Act.put, sT, sS, sZ]
  refine wpList_run rfl (.bool false) (exec_move (.tmp 42) rfl _ rfl _) ?_
  simp only [Act.put, sT, sS, sZ]
  refine wpList_runH (.bool true) (exec_move (.tmp 8) rfl _ rfl _) ?_ (by rfl)
  simp only [Act.put, sT, sS, sZ]
  refine wpList_runH (.bool false) (exec_notv (.tmp 44) rfl _ rfl false rfl _) ?_ (by rfl)
  simp only [Act.put, sT, sS, sZ]
  refine wpList_run rfl (.bool false) (exec_pickf (.tmp 43) (.const (.bool true)) (.tmp 45) rfl rfl _ rfl _) ?_
  simp only [Act.put, sT, sS, sZ]
  refine wpList_run rfl (.bool false) (exec_move (.tmp 46) rfl _ rfl _) ?_
  simp only [Act.put, sT, sS, sZ]
  refine wpList_runH (.agg PP7) (exec_load_of _ 60 (.tmp 9) rfl ⟨g28, 0, none⟩ rfl _ (loadT26 IPP7 (HS31.out.get (g28) PP7 60 (by simp)))) ?_ (by rfl)
  simp only [Act.put, sT, sS, sZ]
  refine wpList_callH (by rfl) 31 #[.tmp 48] #[60] rfl #[.agg PP7] en22 (HC8.out _) ?_
  rintro v w32 ⟨he, hb⟩
  cases he
  have HS33 := Lib.hid (HS31.out.below hb)
  clear hb HS31
  simp only [Act.put, sT, sS, sZ]
  refine wpList_runH (.string ⟨(m ++ [b]).toArray⟩) (exec_move (.tmp 0) rfl _ rfl _) ?_ (by rfl)
  simp only [Act.put, sT, sS, sZ]
  refine wpList_runH (.bool false) (exec_ne9_same (.tmp 49) (.tmp 50) rfl ⟨(m ++ [b]).toArray⟩ rfl rfl _) ?_ (by rfl)
  simp only [Act.put, sT, sS, sZ]
  refine wpList_run rfl (.bool false) (exec_pickf (.tmp 47) (.const (.bool true)) (.tmp 51) rfl rfl _ rfl _) ?_
  simp only [Act.put, sT, sS, sZ]
  refine wpList_nil ?_
  go_upto_region 12 with fail
  refine wp_region_list ?_
  refine wpList_run rfl (.agg PP7) (exec_load_of _ 60 (.tmp 9) rfl ⟨g28, 0, none⟩ rfl _ (loadT26 IPP7 (HS33.out.get (g28) PP7 60 (by simp)))) ?_
  simp only [Act.put, sT, sS, sZ]
  refine wpList_run0 rfl (exec_storeT26 _ (.tmp 2) (.tmp 54) rfl (w.heap.size) rfl PP7 IPP7 rfl ZR2 60 (HS33.out.get (w.heap.size) ZR2 60 (by simp)) SZZR2) ?_
  simp only [Act.put, sT, sS, sZ]
  have HS35 : Hid (Kt w [(g28, PP7, 60), (w.heap.size, PP7, 60)] (w32.setRow (w.heap.size) PP7)) := Lib.hid (HS33.out.set (w.heap.size) PP7 ZR2 60 (HS33.out.get (w.heap.size) ZR2 60 (by simp)) (by omega) (fun p hp => by simp at hp; rcases hp with rfl | rfl <;> first | exact .inl rfl | exact .inr ⟨by simp, by simp only; omega⟩))
  clear HS33
  generalize w32.setRow (w.heap.size) PP7 = w34 at *
  refine wpList_run rfl (.bool true) (exec_assign (.const (.bool true)) rfl _ rfl _) ?_
  simp only [Act.put, sT, sS, sZ]
  refine wpList_nil ?_
  go_wp2
  exact bodyPost_ret (results_two rfl _ _ _ ⟨w.heap.size, 0, none⟩ rfl _ (loadT26 IPP7 (HS35.out.get (w.heap.size) PP7 60 (by simp)))) rfl ⟨rfl, HS35.out.1⟩
def FromR (s : ByteArray) (d : (Nat × Nat) × Bool) : Prop := ∀ w, GlobT w → Glob w → Calls Tryz.prog 44 #[.string s] w fun e w' => e = .returned (.tuple #[.agg (ptV d.1), .bool d.2]) ∧ Below w.heap.size w w'
end Go.Proofs.YtdajmekliodmcaaGreatDoor.P8
namespace Go.Proofs.YtdajmekliodmcaaGreatDoor.R
open Go.Proofs.YtdajmekliodmcaaGreatDoor.P8
open Go.RowKit
set_option linter.unusedVariables false
set_option linter.unusedSimpArgs false
section
variable {P : Program}
section
variable {ops : Array Oper} {Q : Exit → Act → World → Prop} {md : Region.Mode} {fuel : Nat} {listed : Array Bool} {a : Act} {w w2 w3 : World} {i j : Nat} {rs : List Nat}
end
end
theorem bytes_app {W wr : World} {B : Nat} {v : Value} {n : Nat} {l : List UInt8} (hown : wr.ownsRow B 5 1 v n (bytesV l)) (hb : Below B W wr) (hB : B ≤ wr.heap.size)
    (news : List UInt8) (m : Nat) (hm : news.length = m) (arr : Array Value) (harr : arr = (bytesV news).toArray) (hlt : n + m ≤ 1000000) :
    ∃ v' W3, (∀ (ρ : Operand → Value) (o : Oper) (s x : Operand), o.op = Op.call { callee := Callee.builtin Builtin.append, args := #[s, x], argTypes := #[33, 33] } → ρ s = v → ρ x = .slice (some ⟨wr.heap.size, 0, none⟩) m m → (execOp ρ o).run Tryz.prog (wr.alloc (.cells arr 5)) = .ok (.value v') W3) ∧
      W3.ownsRow B 5 1 v' (n + m) (bytesV (l ++ news)) ∧ Below B W W3 ∧ W3.heap.size ≥ wr.heap.size := by
  obtain ⟨i5, hi5, hz5, hs5, hb5⟩ := info_parts info5
  subst harr
  obtain ⟨v', W3, happ, hown', hgrow, hat⟩ := exec_append_own (P := Tryz.prog) (wr.alloc (.cells (bytesV news).toArray 5)) B 33 5 i5 _ 1 1 Tryz.underlying33 hi5 hz5 hs5 hb5 rfl (by decide) _ n _ (hown.alloc _) ⟨wr.heap.size, 0, none⟩ m m (bytesV news) (by rw [bytesV_length]; omega) (by
      intro j u hu
      rw [addr_add, cell_of_row _ wr.heap.size (0 + j) (bytesV news).toArray 5 (0, 0) (heap_alloc_new wr _), Nat.zero_add, List.getElem?_toArray]
      exact hu) (by intro u hu; simp [bytesV] at hu; obtain ⟨b, _, rfl⟩ := hu; rfl) (by unfold maxLen; omega) (by omega) (by simp; omega)
  refine ⟨v', W3, happ, by rw [bytesV_append]; exact hown', (hb.alloc hB _).grown hgrow (by simp; omega) (fun j hj => (hown.lt j hj).1), ?_⟩
  have := hgrow.size
  simp at this
  omega
section
variable {P : Program} {ops : Array Oper} {Q : Exit → Act → World → Prop} {md : Region.Mode} {S : World → Prop} {f : Nat}
variable {n : Nat} {listed : Array Bool} {a : Act} {w w2 : World} {i : Nat} {rs : List Nat}
end
section
variable {P : Program} {ops : Array Oper} {Q : Exit → Act → World → Prop} {md : Region.Mode} {S : World → Prop} {f n : Nat} {listed : Array Bool} {a : Act} {w w2 : World} {rs : List Nat}
end
section
variable {P : Program} {ops : Array Oper} {Q : Exit → Act → World → Prop} {md : Region.Mode} {S : World → Prop} {f n : Nat} {listed : Array Bool} {a : Act} {w w2 : World} {rs : List Nat}
end
end Go.Proofs.YtdajmekliodmcaaGreatDoor.R
namespace Go.Proofs.YtdajmekliodmcaaGreatDoor
set_option linter.unusedSimpArgs false
set_option linter.unusedVariables false
open Go.Proofs.YtdajmekliodmcaaGreatDoor.P8
def placeN (l : List UInt8) (c : UInt8) : Nat := l.findIdx (· == c)
def sixL : List UInt8 := [65, 66, 67, 68, 69, 70, 71, 72, 73, 74, 75, 76, 77, 78, 79, 80, 81, 82, 83, 84, 85, 86, 87, 88, 89, 90, 97, 98, 99, 100, 101, 102, 103, 104, 105, 106, 107, 108, 109, 110, 111, 112, 113, 114, 115, 116, 117, 118, 119, 120, 121, 122, 48, 49, 50, 51, 52, 53, 54, 55, 56, 57, 43, 47]
def six (d : Nat) : UInt8 := sixL.getD d 0
theorem six_place : ∀ d, d < 64 → placeN sixL (six d) = d := by decide +kernel
theorem six_not : placeN sixL 61 = 64 := by decide +kernel
def b64 : List UInt8 → List UInt8
  | a :: b :: c :: l => six (a.toNat / 4) :: six (a.toNat % 4 * 16 + b.toNat / 16) :: six (b.toNat % 16 * 4 + c.toNat / 64) :: six (c.toNat % 64) :: b64 l
  | [a, b] => [six (a.toNat / 4), six (a.toNat % 4 * 16 + b.toNat / 16), six (b.toNat % 16 * 4), 61]
  | [a] => [six (a.toNat / 4), six (a.toNat % 4 * 16), 61, 61]
  | [] => []
def dec64 : List UInt8 → Nat → Nat → List UInt8
  | [], _, _ => []
  | c :: l, n, bits =>
    if placeN sixL c = 64 then dec64 l n bits else
      let n2 := (n * 64 + placeN sixL c) % 1048576
      if bits + 6 ≥ 8 then UInt8.ofNat (n2 / 2 ^ (bits - 2)) :: dec64 l n2 (bits - 2) else dec64 l n2 (bits + 6)
theorem dec_step (d : Nat) (hd : d < 64) (l : List UInt8) (n bits : Nat) : dec64 (six d :: l) n bits = if bits + 6 ≥ 8 then UInt8.ofNat ((n * 64 + d) % 1048576 / 2 ^ (bits - 2)) :: dec64 l ((n * 64 + d) % 1048576) (bits - 2) else dec64 l ((n * 64 + d) % 1048576) (bits + 6) := by
  show (if placeN sixL (six d) = 64 then _ else _) = _
  rw [six_place d hd, if_neg (by omega)]
theorem dec_not (l : List UInt8) (n bits : Nat) : dec64 (61 :: l) n bits = dec64 l n bits := by
  show (if placeN sixL 61 = 64 then _ else _) = _
  rw [six_not, if_pos rfl]
theorem ofNat_eq (x : Nat) (a : UInt8) (h : x % 256 = a.toNat) : UInt8.ofNat x = a := by
  apply UInt8.toNat_inj.1
  rw [UInt8.toNat_ofNat', h]
theorem dec_b64 : ∀ (l : List UInt8) (n : Nat), dec64 (b64 l) n 0 = l
  | [], n => rfl
  | [a], n => by
    have ha := a.toNat_lt
    show dec64 [six (a.toNat / 4), six (a.toNat % 4 * 16), 61, 61] n 0 = [a]
    rw [dec_step _ (by omega), if_neg (by omega), dec_step _ (by omega), if_pos (by omega), dec_not, dec_not]
    show [UInt8.ofNat _] = [a]
    rw [ofNat_eq _ a (by simp only [Nat.reducePow, Nat.reduceSub, Nat.reduceAdd]; omega)]
  | [a, b], n => by
    have ha := a.toNat_lt
    have hb := b.toNat_lt
    show dec64 [six (a.toNat / 4), six (a.toNat % 4 * 16 + b.toNat / 16), six (b.toNat % 16 * 4), 61] n 0 = [a, b]
    rw [dec_step _ (by omega), if_neg (by omega), dec_step _ (by omega), if_pos (by omega), dec_step _ (by omega), if_pos (by omega), dec_not]
    show [UInt8.ofNat _, UInt8.ofNat _] = [a, b]
    rw [ofNat_eq _ a (by simp only [Nat.reducePow, Nat.reduceSub, Nat.reduceAdd]; omega), ofNat_eq _ b (by simp only [Nat.reducePow, Nat.reduceSub, Nat.reduceAdd]; omega)]
  | a :: b :: c :: l, n => by
    have ha := a.toNat_lt
    have hb := b.toNat_lt
    have hc := c.toNat_lt
    show dec64 (six (a.toNat / 4) :: six (a.toNat % 4 * 16 + b.toNat / 16) :: six (b.toNat % 16 * 4 + c.toNat / 64) :: six (c.toNat % 64) :: b64 l) n 0 = a :: b :: c :: l
    rw [dec_step _ (by omega), if_neg (by omega), dec_step _ (by omega), if_pos (by omega), dec_step _ (by omega), if_pos (by omega), dec_step _ (by omega), if_pos (by omega)]
    simp only [Nat.reducePow, Nat.reduceSub, Nat.reduceAdd]
    rw [dec_b64 l _, ofNat_eq _ a (by omega), ofNat_eq _ b (by omega), ofNat_eq _ c (by omega)]
def get64 (s : List UInt8) : Option (List UInt8) := if b64 (dec64 s 0 0) = s then some (dec64 s 0 0) else none
theorem get64_iff (s b : List UInt8) : get64 s = some b ↔ b64 b = s := by
  unfold get64
  constructor
  · intro h
    split at h
    · rename_i hc; injection h with h; subst h; exact hc
    · cases h
  · rintro rfl
    rw [dec_b64, if_pos rfl]
theorem get64_of (s d : List UInt8) (h : ∀ b : List UInt8, b64 b = s → d = b) : get64 s = if b64 d = s then some d else none := by
  by_cases e : b64 d = s
  · rw [if_pos e, get64_iff]; exact e
  · rw [if_neg e]
    cases hg : get64 s with
    | none => rfl
    | some b =>
      have h3 := (get64_iff s b).1 hg
      exact absurd (by rw [h b h3]; exact h3) e
end Go.Proofs.YtdajmekliodmcaaGreatDoor
