/- The law PointKnown walked: it returns true at any number, and no memory that was there is changed. No condition but that the package's numbers stand in memory. -/
import Derived.Test.YtgbliacncahooaaDoorGPts
import Derived.Test.YtgbliacncahooaaDoorGMuA
import Derived.Test.YtgbliacncahooaaDoorGBytesP
import Derived.Test.YtgbliacncahooaaDoorGOnP
import Derived.Test.YtgbliacncahooaaDoorGAwakeP
import Derived.Test.YtgbliacncahooaaDoorHexP
namespace Go.Proofs.YtgbliacncahooaaDoor
open Go.RowKit Go.Shelf
set_option linter.unusedVariables false
set_option linter.unusedSimpArgs false
def kL0 : ByteArray := ⟨#[48, 49, 48, 48, 48, 48, 48, 48, 48, 48, 48, 48, 48, 48, 48, 48, 48, 48, 48, 48, 48, 48, 48, 48, 48, 48, 48, 48, 48, 48, 48, 48, 48, 48, 48, 48, 48, 48, 48, 48, 48, 48, 48, 48, 48, 48, 48, 48, 48, 48, 48, 48, 48, 48, 48, 48, 48, 48, 48, 48, 48, 48, 48, 48]⟩
def kL1 : ByteArray := ⟨#[53, 56, 54, 54, 54, 54, 54, 54, 54, 54, 54, 54, 54, 54, 54, 54, 54, 54, 54, 54, 54, 54, 54, 54, 54, 54, 54, 54, 54, 54, 54, 54, 54, 54, 54, 54, 54, 54, 54, 54, 54, 54, 54, 54, 54, 54, 54, 54, 54, 54, 54, 54, 54, 54, 54, 54, 54, 54, 54, 54, 54, 54, 54, 54]⟩
def kL2 : ByteArray := ⟨#[99, 57, 97, 51, 102, 56, 54, 97, 97, 101, 52, 54, 53, 102, 48, 101, 53, 54, 53, 49, 51, 56, 54, 52, 53, 49, 48, 102, 51, 57, 57, 55, 53, 54, 49, 102, 97, 50, 99, 57, 101, 56, 53, 101, 97, 50, 49, 100, 99, 50, 50, 57, 50, 51, 48, 57, 102, 51, 99, 100, 54, 48, 50, 50]⟩
def kL3 : ByteArray := ⟨#[100, 52, 98, 52, 102, 53, 55, 56, 52, 56, 54, 56, 99, 51, 48, 50, 48, 52, 48, 51, 50, 52, 54, 55, 49, 55, 101, 99, 49, 54, 57, 102, 102, 55, 57, 101, 50, 54, 54, 48, 56, 101, 97, 49, 50, 54, 97, 49, 97, 98, 54, 57, 101, 101, 55, 55, 100, 49, 98, 49, 54, 55, 49, 50]⟩
theorem known_0 : (⟨(hex (⟨(bytesN (encP ((mulN (0) (baseN)).1, (mulN (0) (baseN)).2))).toArray⟩ : ByteArray).data.toList).toArray⟩ : ByteArray) = kL0 := by
  rw [show mulN (0) (baseN) = _ from mulN_zero baseN]
  apply ByteArray.ext
  apply Array.toList_inj.1
  show hex (bytesN _) = kL0.data.toList
  decide +kernel
theorem known_1 : (⟨(hex (⟨(bytesN (encP ((mulN (1) (baseN)).1, (mulN (1) (baseN)).2))).toArray⟩ : ByteArray).data.toList).toArray⟩ : ByteArray) = kL1 := by
  rw [show mulN (1) (baseN) = _ from mulN_one baseN_on]
  apply ByteArray.ext
  apply Array.toList_inj.1
  show hex (bytesN _) = kL1.data.toList
  decide +kernel
theorem known_2 : (⟨(hex (⟨(bytesN (encP ((mulN (2) (baseN)).1, (mulN (2) (baseN)).2))).toArray⟩ : ByteArray).data.toList).toArray⟩ : ByteArray) = kL2 := by
  rw [show mulN (2) (baseN) = _ from two_base]
  apply ByteArray.ext
  apply Array.toList_inj.1
  show hex (bytesN _) = kL2.data.toList
  decide +kernel
theorem known_3 : (⟨(hex (⟨(bytesN (encP ((mulN (3) (baseN)).1, (mulN (3) (baseN)).2))).toArray⟩ : ByteArray).data.toList).toArray⟩ : ByteArray) = kL3 := by
  rw [show mulN (3) (baseN) = _ from three_base]
  apply ByteArray.ext
  apply Array.toList_inj.1
  show hex (bytesN _) = kL3.data.toList
  decide +kernel
def KV : Array Value := #[.int .u64 0, .int .u64 1, .int .u64 2, .int .u64 3]
def LV : Array Value := #[.string kL0, .string kL1, .string kL2, .string kL3]
theorem CKV_0 : KV[0]? = some (.int .u64 0) := rfl
theorem CLV_0 : LV[0]? = some (.string kL0) := rfl
theorem CKV_1 : KV[1]? = some (.int .u64 1) := rfl
theorem CLV_1 : LV[1]? = some (.string kL1) := rfl
theorem CKV_2 : KV[2]? = some (.int .u64 2) := rfl
theorem CLV_2 : LV[2]? = some (.string kL2) := rfl
theorem CKV_3 : KV[3]? = some (.int .u64 3) := rfl
theorem CLV_3 : LV[3]? = some (.string kL3) := rfl
theorem bs48 (w : World) : (Instr.buildSlice 48 4 #[(0, .int .u64 0), (1, .int .u64 1), (2, .int .u64 2), (3, .int .u64 3)]).run Tryd.prog w = .ok (.slice (some ⟨w.heap.size, 0, none⟩) 4 4) (w.alloc (.cells KV 22)) := by kernel_rfl
theorem bs49 (a b c d : ByteArray) (w : World) : (Instr.buildSlice 49 4 #[(0, .string a), (1, .string b), (2, .string c), (3, .string d)]).run Tryd.prog w = .ok (.slice (some ⟨w.heap.size, 0, none⟩) 4 4) (w.alloc (.cells #[.string a, .string b, .string c, .string d] 9)) := by kernel_rfl
theorem exec_bs48 {ρ : Operand → Value} {o : Oper} (w : World) (x y z u : Operand) (ho : o.op = .buildSlice 48 4 #[(0, x), (1, y), (2, z), (3, u)]) (hx : ρ x = .int .u64 0) (hy : ρ y = .int .u64 1) (hz : ρ z = .int .u64 2) (hu : ρ u = .int .u64 3) :
    (execOp ρ o).run Tryd.prog w = .ok (.value (.slice (some ⟨w.heap.size, 0, none⟩) 4 4)) (w.alloc (.cells KV 22)) := by
  have h := bs48 w
  rw [← hx, ← hy, ← hz, ← hu] at h
  unfold execOp
  simp [ho, h]
theorem exec_bs49 {ρ : Operand → Value} {o : Oper} (w : World) (x y z u : Operand) (ho : o.op = .buildSlice 49 4 #[(0, x), (1, y), (2, z), (3, u)]) (hx : ρ x = .string kL0) (hy : ρ y = .string kL1) (hz : ρ z = .string kL2) (hu : ρ u = .string kL3) :
    (execOp ρ o).run Tryd.prog w = .ok (.value (.slice (some ⟨w.heap.size, 0, none⟩) 4 4)) (w.alloc (.cells LV 9)) := by
  have h := bs49 kL0 kL1 kL2 kL3 w
  rw [← hx, ← hy, ← hz, ← hu] at h
  rw [hx, hy, hz, hu] at h
  have h2 : (w.alloc (.cells #[.string kL0, .string kL1, .string kL2, .string kL3] 9)) = w.alloc (.cells LV 9) := rfl
  rw [h2, ← hx, ← hy, ← hz, ← hu] at h
  unfold execOp
  simp [ho, h]
theorem exec_ia48 {ρ : Operand → Value} {o : Oper} (x y : Operand) (ho : o.op = .indexAddr 48 x y) (g j : Nat) (hx : ρ x = .slice (some ⟨g, 0, none⟩) 4 4) (hy : ρ y = .int .i64 (j : Int)) (hj : j < 4) (w : World) :
    (execOp ρ o).run Tryd.prog w = .ok (.value (.pointer (some ⟨g, j, none⟩))) w := by
  have hu := Tryd.underlying48
  have hz := Tryd.sizeOf22
  have h1 : (j : Int) < 4 := by omega
  unfold execOp
  rw [ho]
  simp only [hx, hy]
  go_simp
theorem exec_ia49 {ρ : Operand → Value} {o : Oper} (x y : Operand) (ho : o.op = .indexAddr 49 x y) (g j : Nat) (hx : ρ x = .slice (some ⟨g, 0, none⟩) 4 4) (hy : ρ y = .int .i64 (j : Int)) (hj : j < 4) (w : World) :
    (execOp ρ o).run Tryd.prog w = .ok (.value (.pointer (some ⟨g, j, none⟩))) w := by
  have hu := Tryd.underlying49
  have hz := Tryd.sizeOf9
  have h1 : (j : Int) < 4 := by omega
  unfold execOp
  rw [ho]
  simp only [hx, hy]
  go_simp
theorem cv53 (n : Nat) (hn : n < 256) (w : World) : (Go.convert 5 3 (.int .u8 (n : Int))).run Tryd.prog w = .ok (.int .i64 (n : Int)) w := by
  have hw : IntKind.i64.wrap (n : Int) = (n : Int) := by rw [IntKind.wrap_i64]; omega
  have u1 := Tryd.underlying5
  have u2 := Tryd.underlying3
  unfold Go.convert
  go_simp
theorem exec_remk {ρ : Operand → Value} {o : Oper} (x : Operand) (ho : o.op = .binOp .rem 3 x (.const (.int .i64 4)) 3) (hc : ρ (.const (.int .i64 4)) = .int .i64 4) (n j : Nat) (hj : n % 4 = j) (hx : ρ x = .int .i64 (n : Int)) (w : World) :
    (execOp ρ o).run Tryd.prog w = .ok (.value (.int .i64 (j : Int))) w := by
  have h1 : Int.tmod (n : Int) 4 = (j : Int) := by rw [← hj]; exact Int.ofNat_tmod n 4
  unfold execOp
  rw [ho]
  simp only [hx, hc]
  go_simp
set_option maxRecDepth 100000 in
set_option maxHeartbeats 8000000 in
theorem known_any_0 (n : Nat) (Wn : n < 256) (hj0 : n % 4 = 0) (w : World) (hG0 : Glob w) :
    Calls Tryd.prog 8 #[.int .u8 (n : Int)] w fun e w' => e = .returned (.bool true) ∧ Below w.heap.size w w' := by
  have HG := Lib.hid hG0
  have hj := Lib.hid hj0
  obtain ⟨pq, hpq0⟩ : ∃ pq, mulN (0) (baseN) = pq := ⟨_, rfl⟩
  have hpq := Lib.hid hpq0
  have hon : Hid (onN pq) := Lib.hid (by rw [← hpq0]; exact mulN_on baseN_on 0)
  obtain ⟨BS, hBS⟩ : ∃ BS : ByteArray, Hid (BS = ⟨(bytesN (encP ((pq).1, (pq).2))).toArray⟩) := ⟨_, Lib.hid rfl⟩
  have hxx : ∀ w, Calls Tryd.prog 27 #[.string BS] w fun e w' => e = .returned (.string kL0) ∧ Below w.heap.size w w' := fun w => by
    have hl : BS.size = 32 := by rw [hBS.out]; exact bytesN_length _
    have h := hex_any BS (by omega) (by omega) w
    rw [show (⟨(hex BS.data.toList).toArray⟩ : ByteArray) = kL0 by rw [hBS.out, ← hpq0]; exact known_0] at h
    exact h
  have HC1 := Lib.hid (hxx)
  have HC4 : Hid (∀ w, Glob w → _) := Lib.hid (base_any)
  have HC9 : Hid (∀ w, Glob w → _) := Lib.hid (mul_pt (0) (baseN) (by decide) (baseN_on))
  try dsimp only at HC9
  rw [hpq.out] at HC9
  have HC13 := Lib.hid (bytes_pt ((pq).1) ((pq).2) (pp_lt (onN_lt (hon.out)).1) (onN_lt (hon.out)).2)
  rw [← hBS.out] at HC13
  have HC14 : Hid (∀ w, Glob w → _) := Lib.hid (on_pt ((pq).1) ((pq).2) (hon.out))
  have HC15 : Hid (∀ w, Glob w → _) := Lib.hid (awake_any)
  obtain ⟨NN3, hNN3⟩ : ∃ zz9, Hid (zz9 = num (0)) := ⟨_, Lib.hid rfl⟩
  have INN3 : IsNum NN3 := by rw [hNN3.out]; exact isNum _
  obtain ⟨NN5, hNN5⟩ : ∃ zz9, Hid (zz9 = num ((baseN).1)) := ⟨_, Lib.hid rfl⟩
  have INN5 : IsNum NN5 := by rw [hNN5.out]; exact isNum _
  obtain ⟨NN6, hNN6⟩ : ∃ zz9, Hid (zz9 = num ((baseN).2)) := ⟨_, Lib.hid rfl⟩
  have INN6 : IsNum NN6 := by rw [hNN6.out]; exact isNum _
  obtain ⟨PP7, hPP7⟩ : ∃ zz9, Hid (zz9 = NN5 ++ NN6) := ⟨_, Lib.hid rfl⟩
  have IPP7 : IsRw 8 PP7 := by rw [hPP7.out]; exact rw_app (isRw4 INN5) (isRw4 INN6)
  have SPP7_0 : Part PP7 0 NN5 := by rw [hPP7.out]; exact part_left 0 (part_all NN5) NN6
  have SPP7_4 : Part PP7 4 NN6 := by rw [hPP7.out]; exact part_right (NN5) NN6 4 (by simp [INN5.size])
  obtain ⟨ZR8, hZR8⟩ : ∃ zz9, Hid (zz9 = (rowOf .u64 8 (fun _ => 0)).toArray) := ⟨_, Lib.hid rfl⟩
  have SZZR8 : ZR8.size = 8 := by rw [hZR8.out]; rfl
  obtain ⟨NN10, hNN10⟩ : ∃ zz9, Hid (zz9 = num ((pq).1)) := ⟨_, Lib.hid rfl⟩
  have INN10 : IsNum NN10 := by rw [hNN10.out]; exact isNum _
  obtain ⟨NN11, hNN11⟩ : ∃ zz9, Hid (zz9 = num ((pq).2)) := ⟨_, Lib.hid rfl⟩
  have INN11 : IsNum NN11 := by rw [hNN11.out]; exact isNum _
  obtain ⟨PP12, hPP12⟩ : ∃ zz9, Hid (zz9 = NN10 ++ NN11) := ⟨_, Lib.hid rfl⟩
  have IPP12 : IsRw 8 PP12 := by rw [hPP12.out]; exact rw_app (isRw4 INN10) (isRw4 INN11)
  have SPP12_0 : Part PP12 0 NN10 := by rw [hPP12.out]; exact part_left 0 (part_all NN10) NN11
  have SPP12_4 : Part PP12 4 NN11 := by rw [hPP12.out]; exact part_right (NN10) NN11 4 (by simp [INN10.size])
  have HZ26 : ∀ w, (zeroValue 26).run Tryd.prog w = .ok (.agg ZR8) w := by rw [hZR8.out]; exact zeroT26
  have BF2 : ∀ w, (Instr.build 24 #[(0, .int .u64 0)]).run Tryd.prog w = .ok (.agg NN3) w := by rw [hNN3.out]; exact build_run 0 (by decide)
  try simp only [← hNN3.out, ← hNN5.out, ← hNN6.out, ← hNN10.out, ← hNN11.out] at HC1 HC4 HC9 HC13 HC14 HC15 ⊢
  try simp only [← hPP7.out, ← hZR8.out, ← hPP12.out] at HC1 HC4 HC9 HC13 HC14 HC15 ⊢
  clear hNN3 hNN5 hNN6 hPP7 hZR8 hNN10 hNN11 hPP12 hxx hj0 hG0 hBS hpq0
  go_enter Tryd.func8, Tryd.ntmps8
  have HS : Hid (Kt w [] w) := Lib.hid (Kt.nil w)
  go_upto_region 0 with fail
  refine wp_region_list ?_
  refine wpList_run rfl (.bool false) (exec_assign (.const (.bool false)) rfl _ rfl _) ?_
  simp only [Act.put, List.setIfInBounds_toArray, List.set_cons_succ, List.set_cons_zero]
  refine wpList_nil ?_
  go_upto_region 1 with fail
  refine wp_region_list ?_
  refine wpList_run rfl _ (exec_bs48 _ _ _ _ _ rfl rfl rfl rfl rfl) ?_
  simp only [Act.put, List.setIfInBounds_toArray, List.set_cons_succ, List.set_cons_zero]
  have bg3 := HS.out.1.size
  have HS2 := Lib.hid (HS.out.new KV 22)
  clear HS
  generalize w.alloc (.cells KV 22) = w1 at *
  refine wpList_run rfl (.slice (some ⟨w.heap.size, 0, none⟩) 4 4) (exec_assign (.tmp 7) rfl _ rfl _) ?_
  simp only [Act.put, List.setIfInBounds_toArray, List.set_cons_succ, List.set_cons_zero]
  refine wpList_nil ?_
  go_upto_region 2 with fail
  refine wp_region_list ?_
  refine wpList_run rfl _ (exec_bs49 _ _ _ _ _ rfl rfl rfl rfl rfl) ?_
  simp only [Act.put, List.setIfInBounds_toArray, List.set_cons_succ, List.set_cons_zero]
  have lg6_0 := HS2.out.lt (w.heap.size) KV 22 (by simp)
  have bg6 := HS2.out.1.size
  have HS5 := Lib.hid (HS2.out.new LV 9)
  clear HS2
  generalize w1.alloc (.cells LV 9) = w4 at *
  generalize w1.heap.size = g6 at *
  refine wpList_run rfl (.slice (some ⟨g6, 0, none⟩) 4 4) (exec_assign (.tmp 8) rfl _ rfl _) ?_
  simp only [Act.put, List.setIfInBounds_toArray, List.set_cons_succ, List.set_cons_zero]
  refine wpList_nil ?_
  go_upto_region 3 with fail
  refine wp_region_list ?_
  refine wpList_run rfl (.int .u8 (n : Int)) (exec_move (.tmp 0) rfl _ rfl _) ?_
  simp only [Act.put, List.setIfInBounds_toArray, List.set_cons_succ, List.set_cons_zero]
  refine wpList_run rfl (.int .i64 (n : Int)) (exec_convG 5 3 (.tmp 9) rfl _ rfl _ _ _ (cv53 n Wn _)) ?_
  simp only [Act.put, List.setIfInBounds_toArray, List.set_cons_succ, List.set_cons_zero]
  refine wpList_run rfl (.int .i64 ((0 : Nat) : Int)) (exec_remk (.tmp 10) rfl rfl n 0 hj.out rfl _) ?_
  simp only [Act.put, List.setIfInBounds_toArray, List.set_cons_succ, List.set_cons_zero]
  refine wpList_run rfl (.int .i64 ((0 : Nat) : Int)) (exec_assign (.tmp 11) rfl _ rfl _) ?_
  simp only [Act.put, List.setIfInBounds_toArray, List.set_cons_succ, List.set_cons_zero]
  refine wpList_nil ?_
  go_upto_region 4 with fail
  refine wp_cut (fun a' W' => ∃ gq7s0, a' = { tmps := #[.int .u8 (n : Int), undef, .bool false, .slice (some ⟨w.heap.size, 0, none⟩) 4 4, .slice (some ⟨g6, 0, none⟩) 4 4, .int .i64 ((0 : Nat) : Int), .pointer (some ⟨gq7s0, 0, none⟩), .slice (some ⟨w.heap.size, 0, none⟩) 4 4, .slice (some ⟨g6, 0, none⟩) 4 4, .int .u8 (n : Int), .int .i64 (n : Int), .int .i64 ((0 : Nat) : Int), .slice (some ⟨w.heap.size, 0, none⟩) 4 4, .int .i64 ((0 : Nat) : Int), .pointer (some ⟨w.heap.size, 0, none⟩), .int .u64 0, .agg NN3, .agg PP7, .agg PP12, undef, undef, undef, undef, undef, undef, undef, undef, undef, undef, undef, undef, undef, undef, undef], defers := [] } ∧ Kt w [(g6, LV, 9), (w.heap.size, KV, 22), (gq7s0, PP12, 26)] W' ∧ w.heap.size ≤ gq7s0 ∧ gq7s0 ≠ g6 ∧ gq7s0 ≠ w.heap.size) ?_ ?_
  · refine wp_region_any (by kernel_rfl) ?_
    change wpAny _ _ _ _ _ _ _ (World.drew _)
    have HDq7x1 := HS5.out.drew
    clear HS5
    generalize w4.drew = wdq7x2 at *
    refine any_of_F (S := Kt w [(g6, LV, 9), (w.heap.size, KV, 22)]) (f := 1000) _ _ _ _ ?_
    refine F_have 1 #[true, true, true, true, true, true, true, true, false] (fun aJ W => ∃ gjq7_0_0, aJ = { tmps := #[.int .u8 (n : Int), undef, .bool false, .slice (some ⟨w.heap.size, 0, none⟩) 4 4, .slice (some ⟨g6, 0, none⟩) 4 4, .int .i64 ((0 : Nat) : Int), .pointer (some ⟨gjq7_0_0, 0, none⟩), .slice (some ⟨w.heap.size, 0, none⟩) 4 4, .slice (some ⟨g6, 0, none⟩) 4 4, .int .u8 (n : Int), .int .i64 (n : Int), .int .i64 ((0 : Nat) : Int), .slice (some ⟨w.heap.size, 0, none⟩) 4 4, .int .i64 ((0 : Nat) : Int), .pointer (some ⟨w.heap.size, 0, none⟩), .int .u64 0, .agg NN3, .agg PP7, .agg PP12, undef, undef, undef, undef, undef, undef, undef, undef, undef, undef, undef, undef, undef, undef, undef], defers := [] } ∧ Kt w [(g6, LV, 9), (w.heap.size, KV, 22)] W ∧ Kt w [(gjq7_0_0, ZR8, 26)] W ∧ w.heap.size ≤ gjq7_0_0 ∧ gjq7_0_0 ≠ g6 ∧ gjq7_0_0 ≠ w.heap.size) ?_ ?_
    · rintro aJ wq7x11 ⟨gjq7_0_0, rfl, Hq7x12, Eq7x13, fJq7_0_0, fJq7_0_1, fJq7_0_2⟩
      refine AnyF.ready (rs := [8]) (by kernel_rfl) (by simp) (ReadyF.op0 (.store 26 (.tmp 6) (.tmp 18)) rfl (fun o ho => exec_storeT26 wq7x11 (.tmp 6) (.tmp 18) ho (gjq7_0_0) rfl PP12 IPP12 rfl ZR8 26 (Eq7x13.get (gjq7_0_0) ZR8 26 (by simp)) SZZR8) (Hq7x12.set (gjq7_0_0) PP12 ZR8 26 (Eq7x13.get (gjq7_0_0) ZR8 26 (by simp)) (by omega) (fun p hp => by simp at hp; rcases hp with rfl | rfl <;> exact .inr ⟨by simp, by simp only; omega⟩)) ?_ ReadyF.nil)
      have Hq7x15 := Hq7x12.set (gjq7_0_0) PP12 ZR8 26 (Eq7x13.get (gjq7_0_0) ZR8 26 (by simp)) (by omega) (m := [(g6, LV, 9), (w.heap.size, KV, 22)]) (fun p hp => by simp at hp; rcases hp with rfl | rfl <;> exact .inr ⟨by simp, by simp only; omega⟩)
      have Eq7x16 := Eq7x13.set (gjq7_0_0) PP12 ZR8 26 (Eq7x13.get (gjq7_0_0) ZR8 26 (by simp)) (by omega) (m := [(gjq7_0_0, PP12, 26)]) (fun p hp => by simp at hp; subst hp; first | exact .inl rfl | exact .inr ⟨by simp, by simp only; omega⟩)
      generalize wq7x11.setRow (gjq7_0_0) PP12 = wq7x14 at *
      refine AnyF.done (by kernel_rfl) ?_ _
      refine nrm_intro ⟨gjq7_0_0, rfl, (Hq7x15.app Eq7x16).sub (fun p hp => by simp at hp; rcases hp with rfl | rfl | rfl <;> simp), by omega, by omega, by omega⟩
    intro Jq7_0
    refine F_have 2 #[true, true, true, true, true, true, false, true, false] (fun aJ W => ∃ gjq7_1_0, aJ = { tmps := #[.int .u8 (n : Int), undef, .bool false, .slice (some ⟨w.heap.size, 0, none⟩) 4 4, .slice (some ⟨g6, 0, none⟩) 4 4, .int .i64 ((0 : Nat) : Int), .pointer (some ⟨gjq7_1_0, 0, none⟩), .slice (some ⟨w.heap.size, 0, none⟩) 4 4, .slice (some ⟨g6, 0, none⟩) 4 4, .int .u8 (n : Int), .int .i64 (n : Int), .int .i64 ((0 : Nat) : Int), .slice (some ⟨w.heap.size, 0, none⟩) 4 4, .int .i64 ((0 : Nat) : Int), .pointer (some ⟨w.heap.size, 0, none⟩), .int .u64 0, .agg NN3, .agg PP7, undef, undef, undef, undef, undef, undef, undef, undef, undef, undef, undef, undef, undef, undef, undef, undef], defers := [] } ∧ Kt w [(g6, LV, 9), (w.heap.size, KV, 22)] W ∧ Kt w [(gjq7_1_0, ZR8, 26)] W ∧ w.heap.size ≤ gjq7_1_0 ∧ gjq7_1_0 ≠ g6 ∧ gjq7_1_0 ≠ w.heap.size) ?_ ?_
    · rintro aJ wq7x17 ⟨gjq7_1_0, rfl, Hq7x18, Eq7x19, fJq7_1_0, fJq7_1_1, fJq7_1_2⟩
      refine AnyF.ready (rs := [6]) (by kernel_rfl) (by simp) (ReadyF.call (some 18) 20 #[.tmp 16, .tmp 17] #[24, 26] rfl #[.agg NN3, .agg PP7] (by simp [Act.eval]) en20 _ (HC9.out _ (HG.out.below Hq7x18.1)) ?_ (fun c w' h => by cases h.1) (fun w' h => by cases h.1) ReadyF.nil)
      rintro v wq7x20 ⟨he, hb⟩
      cases he
      have Hq7x21 := Hq7x18.below hb
      have Eq7x22 := Eq7x19.below hb
      clear hb
      refine ⟨Hq7x21, ?_⟩
      simp only [Act.put, List.setIfInBounds_toArray, List.set_cons_succ, List.set_cons_zero]
      exact F_to (by kernel_rfl) (by kernel_rfl) (Jq7_0 _ _ ⟨gjq7_1_0, rfl, Hq7x21, Eq7x22, by omega, by omega, by omega⟩)
    intro Jq7_1
    refine AnyF.takeG (by rfl) 0 (some 12) (.move (.tmp 3)) none (.slice (some ⟨w.heap.size, 0, none⟩) 4 4) rfl (by kernel_rfl) (by kernel_rfl) (by kernel_rfl) (fun _ _ _ h => h) rfl (fun o h => by obtain rfl := Option.some.inj h; rfl) (fun o ho w2 hw => exec_move (.tmp 3) ho _ rfl w2) HDq7x1 ?_
    simp only [Act.put, List.setIfInBounds_toArray, List.set_cons_succ, List.set_cons_zero]
    refine AnyF.takeG (by rfl) 1 (some 13) (.move (.tmp 5)) none (.int .i64 ((0 : Nat) : Int)) rfl (by kernel_rfl) (by kernel_rfl) (by kernel_rfl) (fun _ _ _ h => h) rfl (fun o h => by obtain rfl := Option.some.inj h; rfl) (fun o ho w2 hw => exec_move (.tmp 5) ho _ rfl w2) HDq7x1 ?_
    simp only [Act.put, List.setIfInBounds_toArray, List.set_cons_succ, List.set_cons_zero]
    refine AnyF.takeG (by rfl) 2 (some 14) (.indexAddr 48 (.tmp 12) (.tmp 13)) none (.pointer (some ⟨w.heap.size, 0, none⟩)) rfl (by kernel_rfl) (by kernel_rfl) (by kernel_rfl) (fun _ _ _ h => h) rfl (fun o h => by obtain rfl := Option.some.inj h; rfl) (fun o ho w2 hw => exec_ia48 (.tmp 12) (.tmp 13) ho (w.heap.size) 0 rfl rfl (by decide) w2) HDq7x1 ?_
    simp only [Act.put, List.setIfInBounds_toArray, List.set_cons_succ, List.set_cons_zero]
    refine AnyF.takeG (by rfl) 3 (some 15) (.load 22 (.tmp 14)) none (.int .u64 0) rfl (by kernel_rfl) (by kernel_rfl) (by kernel_rfl) (fun _ _ _ h => h) rfl (fun o h => by obtain rfl := Option.some.inj h; rfl) (fun o ho w2 hw => exec_load_one _ 22 (.tmp 14) ho ⟨w.heap.size, 0, none⟩ rfl _ (cell_part (hw.get (w.heap.size) KV 22 (by simp)) 0 _ CKV_0) _ Tryd.underlying22 rfl) HDq7x1 ?_
    simp only [Act.put, List.setIfInBounds_toArray, List.set_cons_succ, List.set_cons_zero]
    refine AnyF.takeG (by rfl) 4 (some 16) (.build 24 #[(0, .tmp 15)]) none (.agg NN3) rfl (by kernel_rfl) (by kernel_rfl) (by kernel_rfl) (fun _ _ _ h => h) rfl (fun o h => by obtain rfl := Option.some.inj h; rfl) (fun o ho w2 hw => exec_buildN _ 24 #[(0, .tmp 15)] ho #[(0, .int .u64 0)] (by simp [Act.eval]) _ (BF2 _)) HDq7x1 ?_
    simp only [Act.put, List.setIfInBounds_toArray, List.set_cons_succ, List.set_cons_zero]
    refine AnyF.ready (rs := [5, 7]) (by kernel_rfl) (by simp) (ReadyF.call (some 17) 15 #[] #[] rfl #[] (by simp [Act.eval]) en15 _ (HC4.out _ (HG.out.below HDq7x1.1)) ?_ (fun c w' h => by cases h.1) (fun w' h => by cases h.1) (ReadyF.op (some 6) (.alloc 26) rfl (.pointer (some ⟨wdq7x2.heap.size, 0, none⟩)) (fun o ho => exec_alloc_agg _ 26 ho _ (HZ26 _)) (HDq7x1.alloc _) ?_ ReadyF.nil))
    · rintro v wq7x23 ⟨he, hb⟩
      cases he
      have Hq7x24 := HDq7x1.below hb
      clear hb
      refine ⟨Hq7x24, ?_⟩
      simp only [Act.put, List.setIfInBounds_toArray, List.set_cons_succ, List.set_cons_zero]
      refine AnyF.ready (rs := [6, 7]) (by kernel_rfl) (by simp) (ReadyF.call (some 18) 20 #[.tmp 16, .tmp 17] #[24, 26] rfl #[.agg NN3, .agg PP7] (by simp [Act.eval]) en20 _ (HC9.out _ (HG.out.below Hq7x24.1)) ?_ (fun c w' h => by cases h.1) (fun w' h => by cases h.1) (ReadyF.op (some 6) (.alloc 26) rfl (.pointer (some ⟨wq7x23.heap.size, 0, none⟩)) (fun o ho => exec_alloc_agg _ 26 ho _ (HZ26 _)) (Hq7x24.alloc _) ?_ ReadyF.nil))
      · rintro v wq7x25 ⟨he, hb⟩
        cases he
        have Hq7x26 := Hq7x24.below hb
        clear hb
        refine ⟨Hq7x26, ?_⟩
        simp only [Act.put, List.setIfInBounds_toArray, List.set_cons_succ, List.set_cons_zero]
        refine AnyF.ready (rs := [7]) (by kernel_rfl) (by simp) (ReadyF.op (some 6) (.alloc 26) rfl (.pointer (some ⟨wq7x25.heap.size, 0, none⟩)) (fun o ho => exec_alloc_agg _ 26 ho _ (HZ26 _)) (Hq7x26.alloc _) ?_ ReadyF.nil)
        have l0wq7x27 := Hq7x26.lt (g6) LV 9 (by simp)
        have l1wq7x27 := Hq7x26.lt (w.heap.size) KV 22 (by simp)
        have bwq7x27 := Hq7x26.1.size
        have Hq7x28 := Hq7x26.alloc (.cells ZR8 26)
        have Eq7x29 := (Hq7x26.sub (m := []) (fun p hp => by cases hp)).new ZR8 26
        simp only [Act.put, List.setIfInBounds_toArray, List.set_cons_succ, List.set_cons_zero]
        obtain ⟨wq7x27, hwq7x27⟩ : ∃ W, W = wq7x25.alloc (.cells ZR8 26) := ⟨_, rfl⟩
        rw [← hwq7x27] at Hq7x28 Eq7x29 ⊢
        clear hwq7x27
        exact F_to (by kernel_rfl) (by kernel_rfl) (Jq7_0 _ _ ⟨wq7x25.heap.size, rfl, Hq7x28, Eq7x29, by omega, by omega, by omega⟩)
      · have l0wq7x30 := Hq7x24.lt (g6) LV 9 (by simp)
        have l1wq7x30 := Hq7x24.lt (w.heap.size) KV 22 (by simp)
        have bwq7x30 := Hq7x24.1.size
        have Hq7x31 := Hq7x24.alloc (.cells ZR8 26)
        have Eq7x32 := (Hq7x24.sub (m := []) (fun p hp => by cases hp)).new ZR8 26
        simp only [Act.put, List.setIfInBounds_toArray, List.set_cons_succ, List.set_cons_zero]
        obtain ⟨wq7x30, hwq7x30⟩ : ∃ W, W = wq7x23.alloc (.cells ZR8 26) := ⟨_, rfl⟩
        rw [← hwq7x30] at Hq7x31 Eq7x32 ⊢
        clear hwq7x30
        exact F_to (by kernel_rfl) (by kernel_rfl) (Jq7_1 _ _ ⟨wq7x23.heap.size, rfl, Hq7x31, Eq7x32, by omega, by omega, by omega⟩)
    · have l0wq7x33 := HDq7x1.lt (g6) LV 9 (by simp)
      have l1wq7x33 := HDq7x1.lt (w.heap.size) KV 22 (by simp)
      have bwq7x33 := HDq7x1.1.size
      have Hq7x34 := HDq7x1.alloc (.cells ZR8 26)
      have Eq7x35 := (HDq7x1.sub (m := []) (fun p hp => by cases hp)).new ZR8 26
      simp only [Act.put, List.setIfInBounds_toArray, List.set_cons_succ, List.set_cons_zero]
      obtain ⟨wq7x33, hwq7x33⟩ : ∃ W, W = wdq7x2.alloc (.cells ZR8 26) := ⟨_, rfl⟩
      rw [← hwq7x33] at Hq7x34 Eq7x35 ⊢
      clear hwq7x33
      refine AnyF.ready (rs := [5]) (by kernel_rfl) (by simp) (ReadyF.call (some 17) 15 #[] #[] rfl #[] (by simp [Act.eval]) en15 _ (HC4.out _ (HG.out.below Hq7x34.1)) ?_ (fun c w' h => by cases h.1) (fun w' h => by cases h.1) ReadyF.nil)
      rintro v wq7x36 ⟨he, hb⟩
      cases he
      have Hq7x37 := Hq7x34.below hb
      have Eq7x38 := Eq7x35.below hb
      clear hb
      refine ⟨Hq7x37, ?_⟩
      simp only [Act.put, List.setIfInBounds_toArray, List.set_cons_succ, List.set_cons_zero]
      exact F_to (by kernel_rfl) (by kernel_rfl) (Jq7_1 _ _ ⟨wdq7x2.heap.size, rfl, Hq7x37, Eq7x38, by omega, by omega, by omega⟩)
  rintro a' w8 ⟨gq7s0, rfl, hk, e10, e11, e12⟩
  have HS9 := Lib.hid hk
  clear hk HS5
  go_upto_region 5 with fail
  refine wp_cut (fun a' W' => a' = { tmps := #[.int .u8 (n : Int), undef, .bool true, .slice (some ⟨w.heap.size, 0, none⟩) 4 4, .slice (some ⟨g6, 0, none⟩) 4 4, .int .i64 ((0 : Nat) : Int), .pointer (some ⟨gq7s0, 0, none⟩), .slice (some ⟨w.heap.size, 0, none⟩) 4 4, .slice (some ⟨g6, 0, none⟩) 4 4, .int .u8 (n : Int), .int .i64 (n : Int), .int .i64 ((0 : Nat) : Int), .slice (some ⟨w.heap.size, 0, none⟩) 4 4, .int .i64 ((0 : Nat) : Int), .pointer (some ⟨w.heap.size, 0, none⟩), .int .u64 0, .agg NN3, .agg PP7, .agg PP12, .agg PP12, .string BS, .string kL0, .slice (some ⟨g6, 0, none⟩) 4 4, .int .i64 ((0 : Nat) : Int), .pointer (some ⟨g6, 0, none⟩), .string kL0, .bool true, .bool true, .agg PP12, .bool true, .bool true, .bool true, .bool true, .bool true], defers := [] } ∧ Kt w [(g6, LV, 9), (w.heap.size, KV, 22)] W') ?_ ?_
  · refine wp_region_any (by kernel_rfl) ?_
    change wpAny _ _ _ _ _ _ _ (World.drew _)
    have HDq13x1 := HS9.out.drew
    clear HS9
    generalize w8.drew = wdq13x2 at *
    refine any_of_F (S := Kt w [(g6, LV, 9), (w.heap.size, KV, 22), (gq7s0, PP12, 26)]) (f := 1000) _ _ _ _ ?_
    refine AnyF.takeG (by rfl) 0 (some 19) (.load 26 (.tmp 6)) none (.agg PP12) rfl (by kernel_rfl) (by kernel_rfl) (by kernel_rfl) (fun _ _ _ h => h) rfl (fun o h => by obtain rfl := Option.some.inj h; rfl) (fun o ho w2 hw => exec_load_of _ 26 (.tmp 6) ho ⟨gq7s0, 0, none⟩ rfl _ (loadT26 IPP12 (hw.get (gq7s0) PP12 26 (by simp)))) HDq13x1 ?_
    simp only [Act.put, List.setIfInBounds_toArray, List.set_cons_succ, List.set_cons_zero]
    refine AnyF.takeG (by rfl) 3 (some 22) (.move (.tmp 4)) none (.slice (some ⟨g6, 0, none⟩) 4 4) rfl (by kernel_rfl) (by kernel_rfl) (by kernel_rfl) (fun _ _ _ h => h) rfl (fun o h => by obtain rfl := Option.some.inj h; rfl) (fun o ho w2 hw => exec_move (.tmp 4) ho _ rfl w2) HDq13x1 ?_
    simp only [Act.put, List.setIfInBounds_toArray, List.set_cons_succ, List.set_cons_zero]
    refine AnyF.takeG (by rfl) 4 (some 23) (.move (.tmp 5)) none (.int .i64 ((0 : Nat) : Int)) rfl (by kernel_rfl) (by kernel_rfl) (by kernel_rfl) (fun _ _ _ h => h) rfl (fun o h => by obtain rfl := Option.some.inj h; rfl) (fun o ho w2 hw => exec_move (.tmp 5) ho _ rfl w2) HDq13x1 ?_
    simp only [Act.put, List.setIfInBounds_toArray, List.set_cons_succ, List.set_cons_zero]
    refine AnyF.takeG (by rfl) 5 (some 24) (.indexAddr 49 (.tmp 22) (.tmp 23)) none (.pointer (some ⟨g6, 0, none⟩)) rfl (by kernel_rfl) (by kernel_rfl) (by kernel_rfl) (fun _ _ _ h => h) rfl (fun o h => by obtain rfl := Option.some.inj h; rfl) (fun o ho w2 hw => exec_ia49 (.tmp 22) (.tmp 23) ho (g6) 0 rfl rfl (by decide) w2) HDq13x1 ?_
    simp only [Act.put, List.setIfInBounds_toArray, List.set_cons_succ, List.set_cons_zero]
    refine AnyF.takeG (by rfl) 6 (some 25) (.load 9 (.tmp 24)) none (.string kL0) rfl (by kernel_rfl) (by kernel_rfl) (by kernel_rfl) (fun _ _ _ h => h) rfl (fun o h => by obtain rfl := Option.some.inj h; rfl) (fun o ho w2 hw => exec_load_one _ 9 (.tmp 24) ho ⟨g6, 0, none⟩ rfl _ (cell_part (hw.get (g6) LV 9 (by simp)) 0 _ CLV_0) _ Tryd.underlying9 rfl) HDq13x1 ?_
    simp only [Act.put, List.setIfInBounds_toArray, List.set_cons_succ, List.set_cons_zero]
    refine AnyF.ready (rs := [1]) (by kernel_rfl) (by simp) (ReadyF.call (some 20) 22 #[.tmp 19] #[26] rfl #[.agg PP12] (by simp [Act.eval]) en22 _ (HC13.out _) ?_ (fun c w' h => by cases h.1) (fun w' h => by cases h.1) ReadyF.nil)
    rintro v wq13x11 ⟨he, hb⟩
    cases he
    have Hq13x12 := HDq13x1.below hb
    clear hb
    refine ⟨Hq13x12, ?_⟩
    simp only [Act.put, List.setIfInBounds_toArray, List.set_cons_succ, List.set_cons_zero]
    refine AnyF.ready (rs := [2]) (by kernel_rfl) (by simp) (ReadyF.call (some 21) 27 #[.tmp 20] #[9] rfl #[.string BS] (by simp [Act.eval]) en27 _ (HC1.out _) ?_ (fun c w' h => by cases h.1) (fun w' h => by cases h.1) ReadyF.nil)
    rintro v wq13x13 ⟨he, hb⟩
    cases he
    have Hq13x14 := Hq13x12.below hb
    clear hb
    refine ⟨Hq13x14, ?_⟩
    simp only [Act.put, List.setIfInBounds_toArray, List.set_cons_succ, List.set_cons_zero]
    refine AnyF.takeG (by rfl) 7 (some 26) (.binOp .eql 9 (.tmp 21) (.tmp 25) 9) none (.bool true) rfl (by kernel_rfl) (by kernel_rfl) (by kernel_rfl) (fun _ _ _ h => h) rfl (fun o h => by obtain rfl := Option.some.inj h; rfl) (fun o ho w2 hw => exec_eq9_same (.tmp 21) (.tmp 25) ho kL0 rfl rfl w2) Hq13x14 ?_
    simp only [Act.put, List.setIfInBounds_toArray, List.set_cons_succ, List.set_cons_zero]
    refine AnyF.takeG (by rfl) 8 (some 27) (.move (.tmp 26)) none (.bool true) rfl (by kernel_rfl) (by kernel_rfl) (by kernel_rfl) (fun _ _ _ h => h) rfl (fun o h => by obtain rfl := Option.some.inj h; rfl) (fun o ho w2 hw => exec_move (.tmp 26) ho _ rfl w2) Hq13x14 ?_
    simp only [Act.put, List.setIfInBounds_toArray, List.set_cons_succ, List.set_cons_zero]
    refine AnyF.takeG (by rfl) 9 (some 28) (.load 26 (.tmp 6)) (some (8, true)) (.agg PP12) rfl (by kernel_rfl) (by kernel_rfl) (by kernel_rfl) (fun _ _ _ h => h) rfl (fun o h => by obtain rfl := Option.some.inj h; rfl) (fun o ho w2 hw => exec_load_of _ 26 (.tmp 6) ho ⟨gq7s0, 0, none⟩ rfl _ (loadT26 IPP12 (hw.get (gq7s0) PP12 26 (by simp)))) Hq13x14 ?_
    simp only [Act.put, List.setIfInBounds_toArray, List.set_cons_succ, List.set_cons_zero]
    refine AnyF.ready (rs := [10]) (by kernel_rfl) (by simp) (ReadyF.callG (some 29) 13 #[.tmp 28] #[26] (some (8, true)) rfl (fun o h => by obtain rfl := Option.some.inj h; rfl) #[.agg PP12] (by simp [Act.eval]) en13 _ (HC14.out _ (HG.out.below Hq13x14.1)) ?_ (fun c w' h => by cases h.1) (fun w' h => by cases h.1) ReadyF.nil)
    rintro v wq13x15 ⟨he, hb⟩
    cases he
    have Hq13x16 := Hq13x14.below hb
    clear hb
    refine ⟨Hq13x16, ?_⟩
    simp only [Act.put, List.setIfInBounds_toArray, List.set_cons_succ, List.set_cons_zero]
    refine AnyF.takeG (by rfl) 11 (some 30) (.pick (.tmp 27) (.tmp 29) (.const (.bool false))) none (.bool true) rfl (by kernel_rfl) (by kernel_rfl) (by kernel_rfl) (fun _ _ _ h => h) rfl (fun o h => by obtain rfl := Option.some.inj h; rfl) (fun o ho w2 hw => exec_pickt (.tmp 27) (.tmp 29) (.const (.bool false)) ho rfl _ rfl w2) Hq13x16 ?_
    simp only [Act.put, List.setIfInBounds_toArray, List.set_cons_succ, List.set_cons_zero]
    refine AnyF.takeG (by rfl) 12 (some 31) (.move (.tmp 30)) none (.bool true) rfl (by kernel_rfl) (by kernel_rfl) (by kernel_rfl) (fun _ _ _ h => h) rfl (fun o h => by obtain rfl := Option.some.inj h; rfl) (fun o ho w2 hw => exec_move (.tmp 30) ho _ rfl w2) Hq13x16 ?_
    simp only [Act.put, List.setIfInBounds_toArray, List.set_cons_succ, List.set_cons_zero]
    refine AnyF.ready (rs := [13]) (by kernel_rfl) (by simp) (ReadyF.callG (some 32) 10 #[] #[] (some (12, true)) rfl (fun o h => by obtain rfl := Option.some.inj h; rfl) #[] (by simp [Act.eval]) en10 _ (HC15.out _ (HG.out.below Hq13x16.1)) ?_ (fun c w' h => by cases h.1) (fun w' h => by cases h.1) ReadyF.nil)
    rintro v wq13x17 ⟨he, hb⟩
    cases he
    have Hq13x18 := Hq13x16.below hb
    clear hb
    refine ⟨Hq13x18, ?_⟩
    simp only [Act.put, List.setIfInBounds_toArray, List.set_cons_succ, List.set_cons_zero]
    refine AnyF.takeG (by rfl) 14 (some 33) (.pick (.tmp 31) (.tmp 32) (.const (.bool false))) none (.bool true) rfl (by kernel_rfl) (by kernel_rfl) (by kernel_rfl) (fun _ _ _ h => h) rfl (fun o h => by obtain rfl := Option.some.inj h; rfl) (fun o ho w2 hw => exec_pickt (.tmp 31) (.tmp 32) (.const (.bool false)) ho rfl _ rfl w2) Hq13x18 ?_
    simp only [Act.put, List.setIfInBounds_toArray, List.set_cons_succ, List.set_cons_zero]
    refine AnyF.takeG (by rfl) 15 (some 2) (.assign (.tmp 33)) none (.bool true) rfl (by kernel_rfl) (by kernel_rfl) (by kernel_rfl) (fun _ _ _ h => h) rfl (fun o h => by obtain rfl := Option.some.inj h; rfl) (fun o ho w2 hw => exec_assign (.tmp 33) ho _ rfl w2) Hq13x18 ?_
    simp only [Act.put, List.setIfInBounds_toArray, List.set_cons_succ, List.set_cons_zero]
    refine AnyF.done (by kernel_rfl) ?_ _
    refine nrm_intro ⟨rfl, Hq13x18.sub (fun p hp => by simp at hp; rcases hp with rfl | rfl <;> simp)⟩
  rintro a' w14 ⟨rfl, hk⟩
  have HS15 := Lib.hid hk
  clear hk HS9
  go_wp2
  go_ret
  exact ⟨rfl, HS15.out.1⟩
set_option maxRecDepth 100000 in
set_option maxHeartbeats 8000000 in
theorem known_any_1 (n : Nat) (Wn : n < 256) (hj0 : n % 4 = 1) (w : World) (hG0 : Glob w) :
    Calls Tryd.prog 8 #[.int .u8 (n : Int)] w fun e w' => e = .returned (.bool true) ∧ Below w.heap.size w w' := by
  have HG := Lib.hid hG0
  have hj := Lib.hid hj0
  obtain ⟨pq, hpq0⟩ : ∃ pq, mulN (1) (baseN) = pq := ⟨_, rfl⟩
  have hpq := Lib.hid hpq0
  have hon : Hid (onN pq) := Lib.hid (by rw [← hpq0]; exact mulN_on baseN_on 1)
  obtain ⟨BS, hBS⟩ : ∃ BS : ByteArray, Hid (BS = ⟨(bytesN (encP ((pq).1, (pq).2))).toArray⟩) := ⟨_, Lib.hid rfl⟩
  have hxx : ∀ w, Calls Tryd.prog 27 #[.string BS] w fun e w' => e = .returned (.string kL1) ∧ Below w.heap.size w w' := fun w => by
    have hl : BS.size = 32 := by rw [hBS.out]; exact bytesN_length _
    have h := hex_any BS (by omega) (by omega) w
    rw [show (⟨(hex BS.data.toList).toArray⟩ : ByteArray) = kL1 by rw [hBS.out, ← hpq0]; exact known_1] at h
    exact h
  have HC1 := Lib.hid (hxx)
  have HC4 : Hid (∀ w, Glob w → _) := Lib.hid (base_any)
  have HC9 : Hid (∀ w, Glob w → _) := Lib.hid (mul_pt (1) (baseN) (by decide) (baseN_on))
  try dsimp only at HC9
  rw [hpq.out] at HC9
  have HC13 := Lib.hid (bytes_pt ((pq).1) ((pq).2) (pp_lt (onN_lt (hon.out)).1) (onN_lt (hon.out)).2)
  rw [← hBS.out] at HC13
  have HC14 : Hid (∀ w, Glob w → _) := Lib.hid (on_pt ((pq).1) ((pq).2) (hon.out))
  have HC15 : Hid (∀ w, Glob w → _) := Lib.hid (awake_any)
  obtain ⟨NN3, hNN3⟩ : ∃ zz9, Hid (zz9 = num (1)) := ⟨_, Lib.hid rfl⟩
  have INN3 : IsNum NN3 := by rw [hNN3.out]; exact isNum _
  obtain ⟨NN5, hNN5⟩ : ∃ zz9, Hid (zz9 = num ((baseN).1)) := ⟨_, Lib.hid rfl⟩
  have INN5 : IsNum NN5 := by rw [hNN5.out]; exact isNum _
  obtain ⟨NN6, hNN6⟩ : ∃ zz9, Hid (zz9 = num ((baseN).2)) := ⟨_, Lib.hid rfl⟩
  have INN6 : IsNum NN6 := by rw [hNN6.out]; exact isNum _
  obtain ⟨PP7, hPP7⟩ : ∃ zz9, Hid (zz9 = NN5 ++ NN6) := ⟨_, Lib.hid rfl⟩
  have IPP7 : IsRw 8 PP7 := by rw [hPP7.out]; exact rw_app (isRw4 INN5) (isRw4 INN6)
  have SPP7_0 : Part PP7 0 NN5 := by rw [hPP7.out]; exact part_left 0 (part_all NN5) NN6
  have SPP7_4 : Part PP7 4 NN6 := by rw [hPP7.out]; exact part_right (NN5) NN6 4 (by simp [INN5.size])
  obtain ⟨ZR8, hZR8⟩ : ∃ zz9, Hid (zz9 = (rowOf .u64 8 (fun _ => 0)).toArray) := ⟨_, Lib.hid rfl⟩
  have SZZR8 : ZR8.size = 8 := by rw [hZR8.out]; rfl
  obtain ⟨NN10, hNN10⟩ : ∃ zz9, Hid (zz9 = num ((pq).1)) := ⟨_, Lib.hid rfl⟩
  have INN10 : IsNum NN10 := by rw [hNN10.out]; exact isNum _
  obtain ⟨NN11, hNN11⟩ : ∃ zz9, Hid (zz9 = num ((pq).2)) := ⟨_, Lib.hid rfl⟩
  have INN11 : IsNum NN11 := by rw [hNN11.out]; exact isNum _
  obtain ⟨PP12, hPP12⟩ : ∃ zz9, Hid (zz9 = NN10 ++ NN11) := ⟨_, Lib.hid rfl⟩
  have IPP12 : IsRw 8 PP12 := by rw [hPP12.out]; exact rw_app (isRw4 INN10) (isRw4 INN11)
  have SPP12_0 : Part PP12 0 NN10 := by rw [hPP12.out]; exact part_left 0 (part_all NN10) NN11
  have SPP12_4 : Part PP12 4 NN11 := by rw [hPP12.out]; exact part_right (NN10) NN11 4 (by simp [INN10.size])
  have HZ26 : ∀ w, (zeroValue 26).run Tryd.prog w = .ok (.agg ZR8) w := by rw [hZR8.out]; exact zeroT26
  have BF2 : ∀ w, (Instr.build 24 #[(0, .int .u64 1)]).run Tryd.prog w = .ok (.agg NN3) w := by rw [hNN3.out]; exact build_run 1 (by decide)
  try simp only [← hNN3.out, ← hNN5.out, ← hNN6.out, ← hNN10.out, ← hNN11.out] at HC1 HC4 HC9 HC13 HC14 HC15 ⊢
  try simp only [← hPP7.out, ← hZR8.out, ← hPP12.out] at HC1 HC4 HC9 HC13 HC14 HC15 ⊢
  clear hNN3 hNN5 hNN6 hPP7 hZR8 hNN10 hNN11 hPP12 hxx hj0 hG0 hBS hpq0
  go_enter Tryd.func8, Tryd.ntmps8
  have HS : Hid (Kt w [] w) := Lib.hid (Kt.nil w)
  go_upto_region 0 with fail
  refine wp_region_list ?_
  refine wpList_run rfl (.bool false) (exec_assign (.const (.bool false)) rfl _ rfl _) ?_
  simp only [Act.put, List.setIfInBounds_toArray, List.set_cons_succ, List.set_cons_zero]
  refine wpList_nil ?_
  go_upto_region 1 with fail
  refine wp_region_list ?_
  refine wpList_run rfl _ (exec_bs48 _ _ _ _ _ rfl rfl rfl rfl rfl) ?_
  simp only [Act.put, List.setIfInBounds_toArray, List.set_cons_succ, List.set_cons_zero]
  have bg3 := HS.out.1.size
  have HS2 := Lib.hid (HS.out.new KV 22)
  clear HS
  generalize w.alloc (.cells KV 22) = w1 at *
  refine wpList_run rfl (.slice (some ⟨w.heap.size, 0, none⟩) 4 4) (exec_assign (.tmp 7) rfl _ rfl _) ?_
  simp only [Act.put, List.setIfInBounds_toArray, List.set_cons_succ, List.set_cons_zero]
  refine wpList_nil ?_
  go_upto_region 2 with fail
  refine wp_region_list ?_
  refine wpList_run rfl _ (exec_bs49 _ _ _ _ _ rfl rfl rfl rfl rfl) ?_
  simp only [Act.put, List.setIfInBounds_toArray, List.set_cons_succ, List.set_cons_zero]
  have lg6_0 := HS2.out.lt (w.heap.size) KV 22 (by simp)
  have bg6 := HS2.out.1.size
  have HS5 := Lib.hid (HS2.out.new LV 9)
  clear HS2
  generalize w1.alloc (.cells LV 9) = w4 at *
  generalize w1.heap.size = g6 at *
  refine wpList_run rfl (.slice (some ⟨g6, 0, none⟩) 4 4) (exec_assign (.tmp 8) rfl _ rfl _) ?_
  simp only [Act.put, List.setIfInBounds_toArray, List.set_cons_succ, List.set_cons_zero]
  refine wpList_nil ?_
  go_upto_region 3 with fail
  refine wp_region_list ?_
  refine wpList_run rfl (.int .u8 (n : Int)) (exec_move (.tmp 0) rfl _ rfl _) ?_
  simp only [Act.put, List.setIfInBounds_toArray, List.set_cons_succ, List.set_cons_zero]
  refine wpList_run rfl (.int .i64 (n : Int)) (exec_convG 5 3 (.tmp 9) rfl _ rfl _ _ _ (cv53 n Wn _)) ?_
  simp only [Act.put, List.setIfInBounds_toArray, List.set_cons_succ, List.set_cons_zero]
  refine wpList_run rfl (.int .i64 ((1 : Nat) : Int)) (exec_remk (.tmp 10) rfl rfl n 1 hj.out rfl _) ?_
  simp only [Act.put, List.setIfInBounds_toArray, List.set_cons_succ, List.set_cons_zero]
  refine wpList_run rfl (.int .i64 ((1 : Nat) : Int)) (exec_assign (.tmp 11) rfl _ rfl _) ?_
  simp only [Act.put, List.setIfInBounds_toArray, List.set_cons_succ, List.set_cons_zero]
  refine wpList_nil ?_
  go_upto_region 4 with fail
  refine wp_cut (fun a' W' => ∃ gq7s0, a' = { tmps := #[.int .u8 (n : Int), undef, .bool false, .slice (some ⟨w.heap.size, 0, none⟩) 4 4, .slice (some ⟨g6, 0, none⟩) 4 4, .int .i64 ((1 : Nat) : Int), .pointer (some ⟨gq7s0, 0, none⟩), .slice (some ⟨w.heap.size, 0, none⟩) 4 4, .slice (some ⟨g6, 0, none⟩) 4 4, .int .u8 (n : Int), .int .i64 (n : Int), .int .i64 ((1 : Nat) : Int), .slice (some ⟨w.heap.size, 0, none⟩) 4 4, .int .i64 ((1 : Nat) : Int), .pointer (some ⟨w.heap.size, 1, none⟩), .int .u64 1, .agg NN3, .agg PP7, .agg PP12, undef, undef, undef, undef, undef, undef, undef, undef, undef, undef, undef, undef, undef, undef, undef], defers := [] } ∧ Kt w [(g6, LV, 9), (w.heap.size, KV, 22), (gq7s0, PP12, 26)] W' ∧ w.heap.size ≤ gq7s0 ∧ gq7s0 ≠ g6 ∧ gq7s0 ≠ w.heap.size) ?_ ?_
  · refine wp_region_any (by kernel_rfl) ?_
    change wpAny _ _ _ _ _ _ _ (World.drew _)
    have HDq7x1 := HS5.out.drew
    clear HS5
    generalize w4.drew = wdq7x2 at *
    refine any_of_F (S := Kt w [(g6, LV, 9), (w.heap.size, KV, 22)]) (f := 1000) _ _ _ _ ?_
    refine F_have 1 #[true, true, true, true, true, true, true, true, false] (fun aJ W => ∃ gjq7_0_0, aJ = { tmps := #[.int .u8 (n : Int), undef, .bool false, .slice (some ⟨w.heap.size, 0, none⟩) 4 4, .slice (some ⟨g6, 0, none⟩) 4 4, .int .i64 ((1 : Nat) : Int), .pointer (some ⟨gjq7_0_0, 0, none⟩), .slice (some ⟨w.heap.size, 0, none⟩) 4 4, .slice (some ⟨g6, 0, none⟩) 4 4, .int .u8 (n : Int), .int .i64 (n : Int), .int .i64 ((1 : Nat) : Int), .slice (some ⟨w.heap.size, 0, none⟩) 4 4, .int .i64 ((1 : Nat) : Int), .pointer (some ⟨w.heap.size, 1, none⟩), .int .u64 1, .agg NN3, .agg PP7, .agg PP12, undef, undef, undef, undef, undef, undef, undef, undef, undef, undef, undef, undef, undef, undef, undef], defers := [] } ∧ Kt w [(g6, LV, 9), (w.heap.size, KV, 22)] W ∧ Kt w [(gjq7_0_0, ZR8, 26)] W ∧ w.heap.size ≤ gjq7_0_0 ∧ gjq7_0_0 ≠ g6 ∧ gjq7_0_0 ≠ w.heap.size) ?_ ?_
    · rintro aJ wq7x11 ⟨gjq7_0_0, rfl, Hq7x12, Eq7x13, fJq7_0_0, fJq7_0_1, fJq7_0_2⟩
      refine AnyF.ready (rs := [8]) (by kernel_rfl) (by simp) (ReadyF.op0 (.store 26 (.tmp 6) (.tmp 18)) rfl (fun o ho => exec_storeT26 wq7x11 (.tmp 6) (.tmp 18) ho (gjq7_0_0) rfl PP12 IPP12 rfl ZR8 26 (Eq7x13.get (gjq7_0_0) ZR8 26 (by simp)) SZZR8) (Hq7x12.set (gjq7_0_0) PP12 ZR8 26 (Eq7x13.get (gjq7_0_0) ZR8 26 (by simp)) (by omega) (fun p hp => by simp at hp; rcases hp with rfl | rfl <;> exact .inr ⟨by simp, by simp only; omega⟩)) ?_ ReadyF.nil)
      have Hq7x15 := Hq7x12.set (gjq7_0_0) PP12 ZR8 26 (Eq7x13.get (gjq7_0_0) ZR8 26 (by simp)) (by omega) (m := [(g6, LV, 9), (w.heap.size, KV, 22)]) (fun p hp => by simp at hp; rcases hp with rfl | rfl <;> exact .inr ⟨by simp, by simp only; omega⟩)
      have Eq7x16 := Eq7x13.set (gjq7_0_0) PP12 ZR8 26 (Eq7x13.get (gjq7_0_0) ZR8 26 (by simp)) (by omega) (m := [(gjq7_0_0, PP12, 26)]) (fun p hp => by simp at hp; subst hp; first | exact .inl rfl | exact .inr ⟨by simp, by simp only; omega⟩)
      generalize wq7x11.setRow (gjq7_0_0) PP12 = wq7x14 at *
      refine AnyF.done (by kernel_rfl) ?_ _
      refine nrm_intro ⟨gjq7_0_0, rfl, (Hq7x15.app Eq7x16).sub (fun p hp => by simp at hp; rcases hp with rfl | rfl | rfl <;> simp), by omega, by omega, by omega⟩
    intro Jq7_0
    refine F_have 2 #[true, true, true, true, true, true, false, true, false] (fun aJ W => ∃ gjq7_1_0, aJ = { tmps := #[.int .u8 (n : Int), undef, .bool false, .slice (some ⟨w.heap.size, 0, none⟩) 4 4, .slice (some ⟨g6, 0, none⟩) 4 4, .int .i64 ((1 : Nat) : Int), .pointer (some ⟨gjq7_1_0, 0, none⟩), .slice (some ⟨w.heap.size, 0, none⟩) 4 4, .slice (some ⟨g6, 0, none⟩) 4 4, .int .u8 (n : Int), .int .i64 (n : Int), .int .i64 ((1 : Nat) : Int), .slice (some ⟨w.heap.size, 0, none⟩) 4 4, .int .i64 ((1 : Nat) : Int), .pointer (some ⟨w.heap.size, 1, none⟩), .int .u64 1, .agg NN3, .agg PP7, undef, undef, undef, undef, undef, undef, undef, undef, undef, undef, undef, undef, undef, undef, undef, undef], defers := [] } ∧ Kt w [(g6, LV, 9), (w.heap.size, KV, 22)] W ∧ Kt w [(gjq7_1_0, ZR8, 26)] W ∧ w.heap.size ≤ gjq7_1_0 ∧ gjq7_1_0 ≠ g6 ∧ gjq7_1_0 ≠ w.heap.size) ?_ ?_
    · rintro aJ wq7x17 ⟨gjq7_1_0, rfl, Hq7x18, Eq7x19, fJq7_1_0, fJq7_1_1, fJq7_1_2⟩
      refine AnyF.ready (rs := [6]) (by kernel_rfl) (by simp) (ReadyF.call (some 18) 20 #[.tmp 16, .tmp 17] #[24, 26] rfl #[.agg NN3, .agg PP7] (by simp [Act.eval]) en20 _ (HC9.out _ (HG.out.below Hq7x18.1)) ?_ (fun c w' h => by cases h.1) (fun w' h => by cases h.1) ReadyF.nil)
      rintro v wq7x20 ⟨he, hb⟩
      cases he
      have Hq7x21 := Hq7x18.below hb
      have Eq7x22 := Eq7x19.below hb
      clear hb
      refine ⟨Hq7x21, ?_⟩
      simp only [Act.put, List.setIfInBounds_toArray, List.set_cons_succ, List.set_cons_zero]
      exact F_to (by kernel_rfl) (by kernel_rfl) (Jq7_0 _ _ ⟨gjq7_1_0, rfl, Hq7x21, Eq7x22, by omega, by omega, by omega⟩)
    intro Jq7_1
    refine AnyF.takeG (by rfl) 0 (some 12) (.move (.tmp 3)) none (.slice (some ⟨w.heap.size, 0, none⟩) 4 4) rfl (by kernel_rfl) (by kernel_rfl) (by kernel_rfl) (fun _ _ _ h => h) rfl (fun o h => by obtain rfl := Option.some.inj h; rfl) (fun o ho w2 hw => exec_move (.tmp 3) ho _ rfl w2) HDq7x1 ?_
    simp only [Act.put, List.setIfInBounds_toArray, List.set_cons_succ, List.set_cons_zero]
    refine AnyF.takeG (by rfl) 1 (some 13) (.move (.tmp 5)) none (.int .i64 ((1 : Nat) : Int)) rfl (by kernel_rfl) (by kernel_rfl) (by kernel_rfl) (fun _ _ _ h => h) rfl (fun o h => by obtain rfl := Option.some.inj h; rfl) (fun o ho w2 hw => exec_move (.tmp 5) ho _ rfl w2) HDq7x1 ?_
    simp only [Act.put, List.setIfInBounds_toArray, List.set_cons_succ, List.set_cons_zero]
    refine AnyF.takeG (by rfl) 2 (some 14) (.indexAddr 48 (.tmp 12) (.tmp 13)) none (.pointer (some ⟨w.heap.size, 1, none⟩)) rfl (by kernel_rfl) (by kernel_rfl) (by kernel_rfl) (fun _ _ _ h => h) rfl (fun o h => by obtain rfl := Option.some.inj h; rfl) (fun o ho w2 hw => exec_ia48 (.tmp 12) (.tmp 13) ho (w.heap.size) 1 rfl rfl (by decide) w2) HDq7x1 ?_
    simp only [Act.put, List.setIfInBounds_toArray, List.set_cons_succ, List.set_cons_zero]
    refine AnyF.takeG (by rfl) 3 (some 15) (.load 22 (.tmp 14)) none (.int .u64 1) rfl (by kernel_rfl) (by kernel_rfl) (by kernel_rfl) (fun _ _ _ h => h) rfl (fun o h => by obtain rfl := Option.some.inj h; rfl) (fun o ho w2 hw => exec_load_one _ 22 (.tmp 14) ho ⟨w.heap.size, 1, none⟩ rfl _ (cell_part (hw.get (w.heap.size) KV 22 (by simp)) 1 _ CKV_1) _ Tryd.underlying22 rfl) HDq7x1 ?_
    simp only [Act.put, List.setIfInBounds_toArray, List.set_cons_succ, List.set_cons_zero]
    refine AnyF.takeG (by rfl) 4 (some 16) (.build 24 #[(0, .tmp 15)]) none (.agg NN3) rfl (by kernel_rfl) (by kernel_rfl) (by kernel_rfl) (fun _ _ _ h => h) rfl (fun o h => by obtain rfl := Option.some.inj h; rfl) (fun o ho w2 hw => exec_buildN _ 24 #[(0, .tmp 15)] ho #[(0, .int .u64 1)] (by simp [Act.eval]) _ (BF2 _)) HDq7x1 ?_
    simp only [Act.put, List.setIfInBounds_toArray, List.set_cons_succ, List.set_cons_zero]
    refine AnyF.ready (rs := [5, 7]) (by kernel_rfl) (by simp) (ReadyF.call (some 17) 15 #[] #[] rfl #[] (by simp [Act.eval]) en15 _ (HC4.out _ (HG.out.below HDq7x1.1)) ?_ (fun c w' h => by cases h.1) (fun w' h => by cases h.1) (ReadyF.op (some 6) (.alloc 26) rfl (.pointer (some ⟨wdq7x2.heap.size, 0, none⟩)) (fun o ho => exec_alloc_agg _ 26 ho _ (HZ26 _)) (HDq7x1.alloc _) ?_ ReadyF.nil))
    · rintro v wq7x23 ⟨he, hb⟩
      cases he
      have Hq7x24 := HDq7x1.below hb
      clear hb
      refine ⟨Hq7x24, ?_⟩
      simp only [Act.put, List.setIfInBounds_toArray, List.set_cons_succ, List.set_cons_zero]
      refine AnyF.ready (rs := [6, 7]) (by kernel_rfl) (by simp) (ReadyF.call (some 18) 20 #[.tmp 16, .tmp 17] #[24, 26] rfl #[.agg NN3, .agg PP7] (by simp [Act.eval]) en20 _ (HC9.out _ (HG.out.below Hq7x24.1)) ?_ (fun c w' h => by cases h.1) (fun w' h => by cases h.1) (ReadyF.op (some 6) (.alloc 26) rfl (.pointer (some ⟨wq7x23.heap.size, 0, none⟩)) (fun o ho => exec_alloc_agg _ 26 ho _ (HZ26 _)) (Hq7x24.alloc _) ?_ ReadyF.nil))
      · rintro v wq7x25 ⟨he, hb⟩
        cases he
        have Hq7x26 := Hq7x24.below hb
        clear hb
        refine ⟨Hq7x26, ?_⟩
        simp only [Act.put, List.setIfInBounds_toArray, List.set_cons_succ, List.set_cons_zero]
        refine AnyF.ready (rs := [7]) (by kernel_rfl) (by simp) (ReadyF.op (some 6) (.alloc 26) rfl (.pointer (some ⟨wq7x25.heap.size, 0, none⟩)) (fun o ho => exec_alloc_agg _ 26 ho _ (HZ26 _)) (Hq7x26.alloc _) ?_ ReadyF.nil)
        have l0wq7x27 := Hq7x26.lt (g6) LV 9 (by simp)
        have l1wq7x27 := Hq7x26.lt (w.heap.size) KV 22 (by simp)
        have bwq7x27 := Hq7x26.1.size
        have Hq7x28 := Hq7x26.alloc (.cells ZR8 26)
        have Eq7x29 := (Hq7x26.sub (m := []) (fun p hp => by cases hp)).new ZR8 26
        simp only [Act.put, List.setIfInBounds_toArray, List.set_cons_succ, List.set_cons_zero]
        obtain ⟨wq7x27, hwq7x27⟩ : ∃ W, W = wq7x25.alloc (.cells ZR8 26) := ⟨_, rfl⟩
        rw [← hwq7x27] at Hq7x28 Eq7x29 ⊢
        clear hwq7x27
        exact F_to (by kernel_rfl) (by kernel_rfl) (Jq7_0 _ _ ⟨wq7x25.heap.size, rfl, Hq7x28, Eq7x29, by omega, by omega, by omega⟩)
      · have l0wq7x30 := Hq7x24.lt (g6) LV 9 (by simp)
        have l1wq7x30 := Hq7x24.lt (w.heap.size) KV 22 (by simp)
        have bwq7x30 := Hq7x24.1.size
        have Hq7x31 := Hq7x24.alloc (.cells ZR8 26)
        have Eq7x32 := (Hq7x24.sub (m := []) (fun p hp => by cases hp)).new ZR8 26
        simp only [Act.put, List.setIfInBounds_toArray, List.set_cons_succ, List.set_cons_zero]
        obtain ⟨wq7x30, hwq7x30⟩ : ∃ W, W = wq7x23.alloc (.cells ZR8 26) := ⟨_, rfl⟩
        rw [← hwq7x30] at Hq7x31 Eq7x32 ⊢
        clear hwq7x30
        exact F_to (by kernel_rfl) (by kernel_rfl) (Jq7_1 _ _ ⟨wq7x23.heap.size, rfl, Hq7x31, Eq7x32, by omega, by omega, by omega⟩)
    · have l0wq7x33 := HDq7x1.lt (g6) LV 9 (by simp)
      have l1wq7x33 := HDq7x1.lt (w.heap.size) KV 22 (by simp)
      have bwq7x33 := HDq7x1.1.size
      have Hq7x34 := HDq7x1.alloc (.cells ZR8 26)
      have Eq7x35 := (HDq7x1.sub (m := []) (fun p hp => by cases hp)).new ZR8 26
      simp only [Act.put, List.setIfInBounds_toArray, List.set_cons_succ, List.set_cons_zero]
      obtain ⟨wq7x33, hwq7x33⟩ : ∃ W, W = wdq7x2.alloc (.cells ZR8 26) := ⟨_, rfl⟩
      rw [← hwq7x33] at Hq7x34 Eq7x35 ⊢
      clear hwq7x33
      refine AnyF.ready (rs := [5]) (by kernel_rfl) (by simp) (ReadyF.call (some 17) 15 #[] #[] rfl #[] (by simp [Act.eval]) en15 _ (HC4.out _ (HG.out.below Hq7x34.1)) ?_ (fun c w' h => by cases h.1) (fun w' h => by cases h.1) ReadyF.nil)
      rintro v wq7x36 ⟨he, hb⟩
      cases he
      have Hq7x37 := Hq7x34.below hb
      have Eq7x38 := Eq7x35.below hb
      clear hb
      refine ⟨Hq7x37, ?_⟩
      simp only [Act.put, List.setIfInBounds_toArray, List.set_cons_succ, List.set_cons_zero]
      exact F_to (by kernel_rfl) (by kernel_rfl) (Jq7_1 _ _ ⟨wdq7x2.heap.size, rfl, Hq7x37, Eq7x38, by omega, by omega, by omega⟩)
  rintro a' w8 ⟨gq7s0, rfl, hk, e10, e11, e12⟩
  have HS9 := Lib.hid hk
  clear hk HS5
  go_upto_region 5 with fail
  refine wp_cut (fun a' W' => a' = { tmps := #[.int .u8 (n : Int), undef, .bool true, .slice (some ⟨w.heap.size, 0, none⟩) 4 4, .slice (some ⟨g6, 0, none⟩) 4 4, .int .i64 ((1 : Nat) : Int), .pointer (some ⟨gq7s0, 0, none⟩), .slice (some ⟨w.heap.size, 0, none⟩) 4 4, .slice (some ⟨g6, 0, none⟩) 4 4, .int .u8 (n : Int), .int .i64 (n : Int), .int .i64 ((1 : Nat) : Int), .slice (some ⟨w.heap.size, 0, none⟩) 4 4, .int .i64 ((1 : Nat) : Int), .pointer (some ⟨w.heap.size, 1, none⟩), .int .u64 1, .agg NN3, .agg PP7, .agg PP12, .agg PP12, .string BS, .string kL1, .slice (some ⟨g6, 0, none⟩) 4 4, .int .i64 ((1 : Nat) : Int), .pointer (some ⟨g6, 1, none⟩), .string kL1, .bool true, .bool true, .agg PP12, .bool true, .bool true, .bool true, .bool true, .bool true], defers := [] } ∧ Kt w [(g6, LV, 9), (w.heap.size, KV, 22)] W') ?_ ?_
  · refine wp_region_any (by kernel_rfl) ?_
    change wpAny _ _ _ _ _ _ _ (World.drew _)
    have HDq13x1 := HS9.out.drew
    clear HS9
    generalize w8.drew = wdq13x2 at *
    refine any_of_F (S := Kt w [(g6, LV, 9), (w.heap.size, KV, 22), (gq7s0, PP12, 26)]) (f := 1000) _ _ _ _ ?_
    refine AnyF.takeG (by rfl) 0 (some 19) (.load 26 (.tmp 6)) none (.agg PP12) rfl (by kernel_rfl) (by kernel_rfl) (by kernel_rfl) (fun _ _ _ h => h) rfl (fun o h => by obtain rfl := Option.some.inj h; rfl) (fun o ho w2 hw => exec_load_of _ 26 (.tmp 6) ho ⟨gq7s0, 0, none⟩ rfl _ (loadT26 IPP12 (hw.get (gq7s0) PP12 26 (by simp)))) HDq13x1 ?_
    simp only [Act.put, List.setIfInBounds_toArray, List.set_cons_succ, List.set_cons_zero]
    refine AnyF.takeG (by rfl) 3 (some 22) (.move (.tmp 4)) none (.slice (some ⟨g6, 0, none⟩) 4 4) rfl (by kernel_rfl) (by kernel_rfl) (by kernel_rfl) (fun _ _ _ h => h) rfl (fun o h => by obtain rfl := Option.some.inj h; rfl) (fun o ho w2 hw => exec_move (.tmp 4) ho _ rfl w2) HDq13x1 ?_
    simp only [Act.put, List.setIfInBounds_toArray, List.set_cons_succ, List.set_cons_zero]
    refine AnyF.takeG (by rfl) 4 (some 23) (.move (.tmp 5)) none (.int .i64 ((1 : Nat) : Int)) rfl (by kernel_rfl) (by kernel_rfl) (by kernel_rfl) (fun _ _ _ h => h) rfl (fun o h => by obtain rfl := Option.some.inj h; rfl) (fun o ho w2 hw => exec_move (.tmp 5) ho _ rfl w2) HDq13x1 ?_
    simp only [Act.put, List.setIfInBounds_toArray, List.set_cons_succ, List.set_cons_zero]
    refine AnyF.takeG (by rfl) 5 (some 24) (.indexAddr 49 (.tmp 22) (.tmp 23)) none (.pointer (some ⟨g6, 1, none⟩)) rfl (by kernel_rfl) (by kernel_rfl) (by kernel_rfl) (fun _ _ _ h => h) rfl (fun o h => by obtain rfl := Option.some.inj h; rfl) (fun o ho w2 hw => exec_ia49 (.tmp 22) (.tmp 23) ho (g6) 1 rfl rfl (by decide) w2) HDq13x1 ?_
    simp only [Act.put, List.setIfInBounds_toArray, List.set_cons_succ, List.set_cons_zero]
    refine AnyF.takeG (by rfl) 6 (some 25) (.load 9 (.tmp 24)) none (.string kL1) rfl (by kernel_rfl) (by kernel_rfl) (by kernel_rfl) (fun _ _ _ h => h) rfl (fun o h => by obtain rfl := Option.some.inj h; rfl) (fun o ho w2 hw => exec_load_one _ 9 (.tmp 24) ho ⟨g6, 1, none⟩ rfl _ (cell_part (hw.get (g6) LV 9 (by simp)) 1 _ CLV_1) _ Tryd.underlying9 rfl) HDq13x1 ?_
    simp only [Act.put, List.setIfInBounds_toArray, List.set_cons_succ, List.set_cons_zero]
    refine AnyF.ready (rs := [1]) (by kernel_rfl) (by simp) (ReadyF.call (some 20) 22 #[.tmp 19] #[26] rfl #[.agg PP12] (by simp [Act.eval]) en22 _ (HC13.out _) ?_ (fun c w' h => by cases h.1) (fun w' h => by cases h.1) ReadyF.nil)
    rintro v wq13x11 ⟨he, hb⟩
    cases he
    have Hq13x12 := HDq13x1.below hb
    clear hb
    refine ⟨Hq13x12, ?_⟩
    simp only [Act.put, List.setIfInBounds_toArray, List.set_cons_succ, List.set_cons_zero]
    refine AnyF.ready (rs := [2]) (by kernel_rfl) (by simp) (ReadyF.call (some 21) 27 #[.tmp 20] #[9] rfl #[.string BS] (by simp [Act.eval]) en27 _ (HC1.out _) ?_ (fun c w' h => by cases h.1) (fun w' h => by cases h.1) ReadyF.nil)
    rintro v wq13x13 ⟨he, hb⟩
    cases he
    have Hq13x14 := Hq13x12.below hb
    clear hb
    refine ⟨Hq13x14, ?_⟩
    simp only [Act.put, List.setIfInBounds_toArray, List.set_cons_succ, List.set_cons_zero]
    refine AnyF.takeG (by rfl) 7 (some 26) (.binOp .eql 9 (.tmp 21) (.tmp 25) 9) none (.bool true) rfl (by kernel_rfl) (by kernel_rfl) (by kernel_rfl) (fun _ _ _ h => h) rfl (fun o h => by obtain rfl := Option.some.inj h; rfl) (fun o ho w2 hw => exec_eq9_same (.tmp 21) (.tmp 25) ho kL1 rfl rfl w2) Hq13x14 ?_
    simp only [Act.put, List.setIfInBounds_toArray, List.set_cons_succ, List.set_cons_zero]
    refine AnyF.takeG (by rfl) 8 (some 27) (.move (.tmp 26)) none (.bool true) rfl (by kernel_rfl) (by kernel_rfl) (by kernel_rfl) (fun _ _ _ h => h) rfl (fun o h => by obtain rfl := Option.some.inj h; rfl) (fun o ho w2 hw => exec_move (.tmp 26) ho _ rfl w2) Hq13x14 ?_
    simp only [Act.put, List.setIfInBounds_toArray, List.set_cons_succ, List.set_cons_zero]
    refine AnyF.takeG (by rfl) 9 (some 28) (.load 26 (.tmp 6)) (some (8, true)) (.agg PP12) rfl (by kernel_rfl) (by kernel_rfl) (by kernel_rfl) (fun _ _ _ h => h) rfl (fun o h => by obtain rfl := Option.some.inj h; rfl) (fun o ho w2 hw => exec_load_of _ 26 (.tmp 6) ho ⟨gq7s0, 0, none⟩ rfl _ (loadT26 IPP12 (hw.get (gq7s0) PP12 26 (by simp)))) Hq13x14 ?_
    simp only [Act.put, List.setIfInBounds_toArray, List.set_cons_succ, List.set_cons_zero]
    refine AnyF.ready (rs := [10]) (by kernel_rfl) (by simp) (ReadyF.callG (some 29) 13 #[.tmp 28] #[26] (some (8, true)) rfl (fun o h => by obtain rfl := Option.some.inj h; rfl) #[.agg PP12] (by simp [Act.eval]) en13 _ (HC14.out _ (HG.out.below Hq13x14.1)) ?_ (fun c w' h => by cases h.1) (fun w' h => by cases h.1) ReadyF.nil)
    rintro v wq13x15 ⟨he, hb⟩
    cases he
    have Hq13x16 := Hq13x14.below hb
    clear hb
    refine ⟨Hq13x16, ?_⟩
    simp only [Act.put, List.setIfInBounds_toArray, List.set_cons_succ, List.set_cons_zero]
    refine AnyF.takeG (by rfl) 11 (some 30) (.pick (.tmp 27) (.tmp 29) (.const (.bool false))) none (.bool true) rfl (by kernel_rfl) (by kernel_rfl) (by kernel_rfl) (fun _ _ _ h => h) rfl (fun o h => by obtain rfl := Option.some.inj h; rfl) (fun o ho w2 hw => exec_pickt (.tmp 27) (.tmp 29) (.const (.bool false)) ho rfl _ rfl w2) Hq13x16 ?_
    simp only [Act.put, List.setIfInBounds_toArray, List.set_cons_succ, List.set_cons_zero]
    refine AnyF.takeG (by rfl) 12 (some 31) (.move (.tmp 30)) none (.bool true) rfl (by kernel_rfl) (by kernel_rfl) (by kernel_rfl) (fun _ _ _ h => h) rfl (fun o h => by obtain rfl := Option.some.inj h; rfl) (fun o ho w2 hw => exec_move (.tmp 30) ho _ rfl w2) Hq13x16 ?_
    simp only [Act.put, List.setIfInBounds_toArray, List.set_cons_succ, List.set_cons_zero]
    refine AnyF.ready (rs := [13]) (by kernel_rfl) (by simp) (ReadyF.callG (some 32) 10 #[] #[] (some (12, true)) rfl (fun o h => by obtain rfl := Option.some.inj h; rfl) #[] (by simp [Act.eval]) en10 _ (HC15.out _ (HG.out.below Hq13x16.1)) ?_ (fun c w' h => by cases h.1) (fun w' h => by cases h.1) ReadyF.nil)
    rintro v wq13x17 ⟨he, hb⟩
    cases he
    have Hq13x18 := Hq13x16.below hb
    clear hb
    refine ⟨Hq13x18, ?_⟩
    simp only [Act.put, List.setIfInBounds_toArray, List.set_cons_succ, List.set_cons_zero]
    refine AnyF.takeG (by rfl) 14 (some 33) (.pick (.tmp 31) (.tmp 32) (.const (.bool false))) none (.bool true) rfl (by kernel_rfl) (by kernel_rfl) (by kernel_rfl) (fun _ _ _ h => h) rfl (fun o h => by obtain rfl := Option.some.inj h; rfl) (fun o ho w2 hw => exec_pickt (.tmp 31) (.tmp 32) (.const (.bool false)) ho rfl _ rfl w2) Hq13x18 ?_
    simp only [Act.put, List.setIfInBounds_toArray, List.set_cons_succ, List.set_cons_zero]
    refine AnyF.takeG (by rfl) 15 (some 2) (.assign (.tmp 33)) none (.bool true) rfl (by kernel_rfl) (by kernel_rfl) (by kernel_rfl) (fun _ _ _ h => h) rfl (fun o h => by obtain rfl := Option.some.inj h; rfl) (fun o ho w2 hw => exec_assign (.tmp 33) ho _ rfl w2) Hq13x18 ?_
    simp only [Act.put, List.setIfInBounds_toArray, List.set_cons_succ, List.set_cons_zero]
    refine AnyF.done (by kernel_rfl) ?_ _
    refine nrm_intro ⟨rfl, Hq13x18.sub (fun p hp => by simp at hp; rcases hp with rfl | rfl <;> simp)⟩
  rintro a' w14 ⟨rfl, hk⟩
  have HS15 := Lib.hid hk
  clear hk HS9
  go_wp2
  go_ret
  exact ⟨rfl, HS15.out.1⟩
set_option maxRecDepth 100000 in
set_option maxHeartbeats 8000000 in
theorem known_any_2 (n : Nat) (Wn : n < 256) (hj0 : n % 4 = 2) (w : World) (hG0 : Glob w) :
    Calls Tryd.prog 8 #[.int .u8 (n : Int)] w fun e w' => e = .returned (.bool true) ∧ Below w.heap.size w w' := by
  have HG := Lib.hid hG0
  have hj := Lib.hid hj0
  obtain ⟨pq, hpq0⟩ : ∃ pq, mulN (2) (baseN) = pq := ⟨_, rfl⟩
  have hpq := Lib.hid hpq0
  have hon : Hid (onN pq) := Lib.hid (by rw [← hpq0]; exact mulN_on baseN_on 2)
  obtain ⟨BS, hBS⟩ : ∃ BS : ByteArray, Hid (BS = ⟨(bytesN (encP ((pq).1, (pq).2))).toArray⟩) := ⟨_, Lib.hid rfl⟩
  have hxx : ∀ w, Calls Tryd.prog 27 #[.string BS] w fun e w' => e = .returned (.string kL2) ∧ Below w.heap.size w w' := fun w => by
    have hl : BS.size = 32 := by rw [hBS.out]; exact bytesN_length _
    have h := hex_any BS (by omega) (by omega) w
    rw [show (⟨(hex BS.data.toList).toArray⟩ : ByteArray) = kL2 by rw [hBS.out, ← hpq0]; exact known_2] at h
    exact h
  have HC1 := Lib.hid (hxx)
  have HC4 : Hid (∀ w, Glob w → _) := Lib.hid (base_any)
  have HC9 : Hid (∀ w, Glob w → _) := Lib.hid (mul_pt (2) (baseN) (by decide) (baseN_on))
  try dsimp only at HC9
  rw [hpq.out] at HC9
  have HC13 := Lib.hid (bytes_pt ((pq).1) ((pq).2) (pp_lt (onN_lt (hon.out)).1) (onN_lt (hon.out)).2)
  rw [← hBS.out] at HC13
  have HC14 : Hid (∀ w, Glob w → _) := Lib.hid (on_pt ((pq).1) ((pq).2) (hon.out))
  have HC15 : Hid (∀ w, Glob w → _) := Lib.hid (awake_any)
  obtain ⟨NN3, hNN3⟩ : ∃ zz9, Hid (zz9 = num (2)) := ⟨_, Lib.hid rfl⟩
  have INN3 : IsNum NN3 := by rw [hNN3.out]; exact isNum _
  obtain ⟨NN5, hNN5⟩ : ∃ zz9, Hid (zz9 = num ((baseN).1)) := ⟨_, Lib.hid rfl⟩
  have INN5 : IsNum NN5 := by rw [hNN5.out]; exact isNum _
  obtain ⟨NN6, hNN6⟩ : ∃ zz9, Hid (zz9 = num ((baseN).2)) := ⟨_, Lib.hid rfl⟩
  have INN6 : IsNum NN6 := by rw [hNN6.out]; exact isNum _
  obtain ⟨PP7, hPP7⟩ : ∃ zz9, Hid (zz9 = NN5 ++ NN6) := ⟨_, Lib.hid rfl⟩
  have IPP7 : IsRw 8 PP7 := by rw [hPP7.out]; exact rw_app (isRw4 INN5) (isRw4 INN6)
  have SPP7_0 : Part PP7 0 NN5 := by rw [hPP7.out]; exact part_left 0 (part_all NN5) NN6
  have SPP7_4 : Part PP7 4 NN6 := by rw [hPP7.out]; exact part_right (NN5) NN6 4 (by simp [INN5.size])
  obtain ⟨ZR8, hZR8⟩ : ∃ zz9, Hid (zz9 = (rowOf .u64 8 (fun _ => 0)).toArray) := ⟨_, Lib.hid rfl⟩
  have SZZR8 : ZR8.size = 8 := by rw [hZR8.out]; rfl
  obtain ⟨NN10, hNN10⟩ : ∃ zz9, Hid (zz9 = num ((pq).1)) := ⟨_, Lib.hid rfl⟩
  have INN10 : IsNum NN10 := by rw [hNN10.out]; exact isNum _
  obtain ⟨NN11, hNN11⟩ : ∃ zz9, Hid (zz9 = num ((pq).2)) := ⟨_, Lib.hid rfl⟩
  have INN11 : IsNum NN11 := by rw [hNN11.out]; exact isNum _
  obtain ⟨PP12, hPP12⟩ : ∃ zz9, Hid (zz9 = NN10 ++ NN11) := ⟨_, Lib.hid rfl⟩
  have IPP12 : IsRw 8 PP12 := by rw [hPP12.out]; exact rw_app (isRw4 INN10) (isRw4 INN11)
  have SPP12_0 : Part PP12 0 NN10 := by rw [hPP12.out]; exact part_left 0 (part_all NN10) NN11
  have SPP12_4 : Part PP12 4 NN11 := by rw [hPP12.out]; exact part_right (NN10) NN11 4 (by simp [INN10.size])
  have HZ26 : ∀ w, (zeroValue 26).run Tryd.prog w = .ok (.agg ZR8) w := by rw [hZR8.out]; exact zeroT26
  have BF2 : ∀ w, (Instr.build 24 #[(0, .int .u64 2)]).run Tryd.prog w = .ok (.agg NN3) w := by rw [hNN3.out]; exact build_run 2 (by decide)
  try simp only [← hNN3.out, ← hNN5.out, ← hNN6.out, ← hNN10.out, ← hNN11.out] at HC1 HC4 HC9 HC13 HC14 HC15 ⊢
  try simp only [← hPP7.out, ← hZR8.out, ← hPP12.out] at HC1 HC4 HC9 HC13 HC14 HC15 ⊢
  clear hNN3 hNN5 hNN6 hPP7 hZR8 hNN10 hNN11 hPP12 hxx hj0 hG0 hBS hpq0
  go_enter Tryd.func8, Tryd.ntmps8
  have HS : Hid (Kt w [] w) := Lib.hid (Kt.nil w)
  go_upto_region 0 with fail
  refine wp_region_list ?_
  refine wpList_run rfl (.bool false) (exec_assign (.const (.bool false)) rfl _ rfl _) ?_
  simp only [Act.put, List.setIfInBounds_toArray, List.set_cons_succ, List.set_cons_zero]
  refine wpList_nil ?_
  go_upto_region 1 with fail
  refine wp_region_list ?_
  refine wpList_run rfl _ (exec_bs48 _ _ _ _ _ rfl rfl rfl rfl rfl) ?_
  simp only [Act.put, List.setIfInBounds_toArray, List.set_cons_succ, List.set_cons_zero]
  have bg3 := HS.out.1.size
  have HS2 := Lib.hid (HS.out.new KV 22)
  clear HS
  generalize w.alloc (.cells KV 22) = w1 at *
  refine wpList_run rfl (.slice (some ⟨w.heap.size, 0, none⟩) 4 4) (exec_assign (.tmp 7) rfl _ rfl _) ?_
  simp only [Act.put, List.setIfInBounds_toArray, List.set_cons_succ, List.set_cons_zero]
  refine wpList_nil ?_
  go_upto_region 2 with fail
  refine wp_region_list ?_
  refine wpList_run rfl _ (exec_bs49 _ _ _ _ _ rfl rfl rfl rfl rfl) ?_
  simp only [Act.put, List.setIfInBounds_toArray, List.set_cons_succ, List.set_cons_zero]
  have lg6_0 := HS2.out.lt (w.heap.size) KV 22 (by simp)
  have bg6 := HS2.out.1.size
  have HS5 := Lib.hid (HS2.out.new LV 9)
  clear HS2
  generalize w1.alloc (.cells LV 9) = w4 at *
  generalize w1.heap.size = g6 at *
  refine wpList_run rfl (.slice (some ⟨g6, 0, none⟩) 4 4) (exec_assign (.tmp 8) rfl _ rfl _) ?_
  simp only [Act.put, List.setIfInBounds_toArray, List.set_cons_succ, List.set_cons_zero]
  refine wpList_nil ?_
  go_upto_region 3 with fail
  refine wp_region_list ?_
  refine wpList_run rfl (.int .u8 (n : Int)) (exec_move (.tmp 0) rfl _ rfl _) ?_
  simp only [Act.put, List.setIfInBounds_toArray, List.set_cons_succ, List.set_cons_zero]
  refine wpList_run rfl (.int .i64 (n : Int)) (exec_convG 5 3 (.tmp 9) rfl _ rfl _ _ _ (cv53 n Wn _)) ?_
  simp only [Act.put, List.setIfInBounds_toArray, List.set_cons_succ, List.set_cons_zero]
  refine wpList_run rfl (.int .i64 ((2 : Nat) : Int)) (exec_remk (.tmp 10) rfl rfl n 2 hj.out rfl _) ?_
  simp only [Act.put, List.setIfInBounds_toArray, List.set_cons_succ, List.set_cons_zero]
  refine wpList_run rfl (.int .i64 ((2 : Nat) : Int)) (exec_assign (.tmp 11) rfl _ rfl _) ?_
  simp only [Act.put, List.setIfInBounds_toArray, List.set_cons_succ, List.set_cons_zero]
  refine wpList_nil ?_
  go_upto_region 4 with fail
  refine wp_cut (fun a' W' => ∃ gq7s0, a' = { tmps := #[.int .u8 (n : Int), undef, .bool false, .slice (some ⟨w.heap.size, 0, none⟩) 4 4, .slice (some ⟨g6, 0, none⟩) 4 4, .int .i64 ((2 : Nat) : Int), .pointer (some ⟨gq7s0, 0, none⟩), .slice (some ⟨w.heap.size, 0, none⟩) 4 4, .slice (some ⟨g6, 0, none⟩) 4 4, .int .u8 (n : Int), .int .i64 (n : Int), .int .i64 ((2 : Nat) : Int), .slice (some ⟨w.heap.size, 0, none⟩) 4 4, .int .i64 ((2 : Nat) : Int), .pointer (some ⟨w.heap.size, 2, none⟩), .int .u64 2, .agg NN3, .agg PP7, .agg PP12, undef, undef, undef, undef, undef, undef, undef, undef, undef, undef, undef, undef, undef, undef, undef], defers := [] } ∧ Kt w [(g6, LV, 9), (w.heap.size, KV, 22), (gq7s0, PP12, 26)] W' ∧ w.heap.size ≤ gq7s0 ∧ gq7s0 ≠ g6 ∧ gq7s0 ≠ w.heap.size) ?_ ?_
  · refine wp_region_any (by kernel_rfl) ?_
    change wpAny _ _ _ _ _ _ _ (World.drew _)
    have HDq7x1 := HS5.out.drew
    clear HS5
    generalize w4.drew = wdq7x2 at *
    refine any_of_F (S := Kt w [(g6, LV, 9), (w.heap.size, KV, 22)]) (f := 1000) _ _ _ _ ?_
    refine F_have 1 #[true, true, true, true, true, true, true, true, false] (fun aJ W => ∃ gjq7_0_0, aJ = { tmps := #[.int .u8 (n : Int), undef, .bool false, .slice (some ⟨w.heap.size, 0, none⟩) 4 4, .slice (some ⟨g6, 0, none⟩) 4 4, .int .i64 ((2 : Nat) : Int), .pointer (some ⟨gjq7_0_0, 0, none⟩), .slice (some ⟨w.heap.size, 0, none⟩) 4 4, .slice (some ⟨g6, 0, none⟩) 4 4, .int .u8 (n : Int), .int .i64 (n : Int), .int .i64 ((2 : Nat) : Int), .slice (some ⟨w.heap.size, 0, none⟩) 4 4, .int .i64 ((2 : Nat) : Int), .pointer (some ⟨w.heap.size, 2, none⟩), .int .u64 2, .agg NN3, .agg PP7, .agg PP12, undef, undef, undef, undef, undef, undef, undef, undef, undef, undef, undef, undef, undef, undef, undef], defers := [] } ∧ Kt w [(g6, LV, 9), (w.heap.size, KV, 22)] W ∧ Kt w [(gjq7_0_0, ZR8, 26)] W ∧ w.heap.size ≤ gjq7_0_0 ∧ gjq7_0_0 ≠ g6 ∧ gjq7_0_0 ≠ w.heap.size) ?_ ?_
    · rintro aJ wq7x11 ⟨gjq7_0_0, rfl, Hq7x12, Eq7x13, fJq7_0_0, fJq7_0_1, fJq7_0_2⟩
      refine AnyF.ready (rs := [8]) (by kernel_rfl) (by simp) (ReadyF.op0 (.store 26 (.tmp 6) (.tmp 18)) rfl (fun o ho => exec_storeT26 wq7x11 (.tmp 6) (.tmp 18) ho (gjq7_0_0) rfl PP12 IPP12 rfl ZR8 26 (Eq7x13.get (gjq7_0_0) ZR8 26 (by simp)) SZZR8) (Hq7x12.set (gjq7_0_0) PP12 ZR8 26 (Eq7x13.get (gjq7_0_0) ZR8 26 (by simp)) (by omega) (fun p hp => by simp at hp; rcases hp with rfl | rfl <;> exact .inr ⟨by simp, by simp only; omega⟩)) ?_ ReadyF.nil)
      have Hq7x15 := Hq7x12.set (gjq7_0_0) PP12 ZR8 26 (Eq7x13.get (gjq7_0_0) ZR8 26 (by simp)) (by omega) (m := [(g6, LV, 9), (w.heap.size, KV, 22)]) (fun p hp => by simp at hp; rcases hp with rfl | rfl <;> exact .inr ⟨by simp, by simp only; omega⟩)
      have Eq7x16 := Eq7x13.set (gjq7_0_0) PP12 ZR8 26 (Eq7x13.get (gjq7_0_0) ZR8 26 (by simp)) (by omega) (m := [(gjq7_0_0, PP12, 26)]) (fun p hp => by simp at hp; subst hp; first | exact .inl rfl | exact .inr ⟨by simp, by simp only; omega⟩)
      generalize wq7x11.setRow (gjq7_0_0) PP12 = wq7x14 at *
      refine AnyF.done (by kernel_rfl) ?_ _
      refine nrm_intro ⟨gjq7_0_0, rfl, (Hq7x15.app Eq7x16).sub (fun p hp => by simp at hp; rcases hp with rfl | rfl | rfl <;> simp), by omega, by omega, by omega⟩
    intro Jq7_0
    refine F_have 2 #[true, true, true, true, true, true, false, true, false] (fun aJ W => ∃ gjq7_1_0, aJ = { tmps := #[.int .u8 (n : Int), undef, .bool false, .slice (some ⟨w.heap.size, 0, none⟩) 4 4, .slice (some ⟨g6, 0, none⟩) 4 4, .int .i64 ((2 : Nat) : Int), .pointer (some ⟨gjq7_1_0, 0, none⟩), .slice (some ⟨w.heap.size, 0, none⟩) 4 4, .slice (some ⟨g6, 0, none⟩) 4 4, .int .u8 (n : Int), .int .i64 (n : Int), .int .i64 ((2 : Nat) : Int), .slice (some ⟨w.heap.size, 0, none⟩) 4 4, .int .i64 ((2 : Nat) : Int), .pointer (some ⟨w.heap.size, 2, none⟩), .int .u64 2, .agg NN3, .agg PP7, undef, undef, undef, undef, undef, undef, undef, undef, undef, undef, undef, undef, undef, undef, undef, undef], defers := [] } ∧ Kt w [(g6, LV, 9), (w.heap.size, KV, 22)] W ∧ Kt w [(gjq7_1_0, ZR8, 26)] W ∧ w.heap.size ≤ gjq7_1_0 ∧ gjq7_1_0 ≠ g6 ∧ gjq7_1_0 ≠ w.heap.size) ?_ ?_
    · rintro aJ wq7x17 ⟨gjq7_1_0, rfl, Hq7x18, Eq7x19, fJq7_1_0, fJq7_1_1, fJq7_1_2⟩
      refine AnyF.ready (rs := [6]) (by kernel_rfl) (by simp) (ReadyF.call (some 18) 20 #[.tmp 16, .tmp 17] #[24, 26] rfl #[.agg NN3, .agg PP7] (by simp [Act.eval]) en20 _ (HC9.out _ (HG.out.below Hq7x18.1)) ?_ (fun c w' h => by cases h.1) (fun w' h => by cases h.1) ReadyF.nil)
      rintro v wq7x20 ⟨he, hb⟩
      cases he
      have Hq7x21 := Hq7x18.below hb
      have Eq7x22 := Eq7x19.below hb
      clear hb
      refine ⟨Hq7x21, ?_⟩
      simp only [Act.put, List.setIfInBounds_toArray, List.set_cons_succ, List.set_cons_zero]
      exact F_to (by kernel_rfl) (by kernel_rfl) (Jq7_0 _ _ ⟨gjq7_1_0, rfl, Hq7x21, Eq7x22, by omega, by omega, by omega⟩)
    intro Jq7_1
    refine AnyF.takeG (by rfl) 0 (some 12) (.move (.tmp 3)) none (.slice (some ⟨w.heap.size, 0, none⟩) 4 4) rfl (by kernel_rfl) (by kernel_rfl) (by kernel_rfl) (fun _ _ _ h => h) rfl (fun o h => by obtain rfl := Option.some.inj h; rfl) (fun o ho w2 hw => exec_move (.tmp 3) ho _ rfl w2) HDq7x1 ?_
    simp only [Act.put, List.setIfInBounds_toArray, List.set_cons_succ, List.set_cons_zero]
    refine AnyF.takeG (by rfl) 1 (some 13) (.move (.tmp 5)) none (.int .i64 ((2 : Nat) : Int)) rfl (by kernel_rfl) (by kernel_rfl) (by kernel_rfl) (fun _ _ _ h => h) rfl (fun o h => by obtain rfl := Option.some.inj h; rfl) (fun o ho w2 hw => exec_move (.tmp 5) ho _ rfl w2) HDq7x1 ?_
    simp only [Act.put, List.setIfInBounds_toArray, List.set_cons_succ, List.set_cons_zero]
    refine AnyF.takeG (by rfl) 2 (some 14) (.indexAddr 48 (.tmp 12) (.tmp 13)) none (.pointer (some ⟨w.heap.size, 2, none⟩)) rfl (by kernel_rfl) (by kernel_rfl) (by kernel_rfl) (fun _ _ _ h => h) rfl (fun o h => by obtain rfl := Option.some.inj h; rfl) (fun o ho w2 hw => exec_ia48 (.tmp 12) (.tmp 13) ho (w.heap.size) 2 rfl rfl (by decide) w2) HDq7x1 ?_
    simp only [Act.put, List.setIfInBounds_toArray, List.set_cons_succ, List.set_cons_zero]
    refine AnyF.takeG (by rfl) 3 (some 15) (.load 22 (.tmp 14)) none (.int .u64 2) rfl (by kernel_rfl) (by kernel_rfl) (by kernel_rfl) (fun _ _ _ h => h) rfl (fun o h => by obtain rfl := Option.some.inj h; rfl) (fun o ho w2 hw => exec_load_one _ 22 (.tmp 14) ho ⟨w.heap.size, 2, none⟩ rfl _ (cell_part (hw.get (w.heap.size) KV 22 (by simp)) 2 _ CKV_2) _ Tryd.underlying22 rfl) HDq7x1 ?_
    simp only [Act.put, List.setIfInBounds_toArray, List.set_cons_succ, List.set_cons_zero]
    refine AnyF.takeG (by rfl) 4 (some 16) (.build 24 #[(0, .tmp 15)]) none (.agg NN3) rfl (by kernel_rfl) (by kernel_rfl) (by kernel_rfl) (fun _ _ _ h => h) rfl (fun o h => by obtain rfl := Option.some.inj h; rfl) (fun o ho w2 hw => exec_buildN _ 24 #[(0, .tmp 15)] ho #[(0, .int .u64 2)] (by simp [Act.eval]) _ (BF2 _)) HDq7x1 ?_
    simp only [Act.put, List.setIfInBounds_toArray, List.set_cons_succ, List.set_cons_zero]
    refine AnyF.ready (rs := [5, 7]) (by kernel_rfl) (by simp) (ReadyF.call (some 17) 15 #[] #[] rfl #[] (by simp [Act.eval]) en15 _ (HC4.out _ (HG.out.below HDq7x1.1)) ?_ (fun c w' h => by cases h.1) (fun w' h => by cases h.1) (ReadyF.op (some 6) (.alloc 26) rfl (.pointer (some ⟨wdq7x2.heap.size, 0, none⟩)) (fun o ho => exec_alloc_agg _ 26 ho _ (HZ26 _)) (HDq7x1.alloc _) ?_ ReadyF.nil))
    · rintro v wq7x23 ⟨he, hb⟩
      cases he
      have Hq7x24 := HDq7x1.below hb
      clear hb
      refine ⟨Hq7x24, ?_⟩
      simp only [Act.put, List.setIfInBounds_toArray, List.set_cons_succ, List.set_cons_zero]
      refine AnyF.ready (rs := [6, 7]) (by kernel_rfl) (by simp) (ReadyF.call (some 18) 20 #[.tmp 16, .tmp 17] #[24, 26] rfl #[.agg NN3, .agg PP7] (by simp [Act.eval]) en20 _ (HC9.out _ (HG.out.below Hq7x24.1)) ?_ (fun c w' h => by cases h.1) (fun w' h => by cases h.1) (ReadyF.op (some 6) (.alloc 26) rfl (.pointer (some ⟨wq7x23.heap.size, 0, none⟩)) (fun o ho => exec_alloc_agg _ 26 ho _ (HZ26 _)) (Hq7x24.alloc _) ?_ ReadyF.nil))
      · rintro v wq7x25 ⟨he, hb⟩
        cases he
        have Hq7x26 := Hq7x24.below hb
        clear hb
        refine ⟨Hq7x26, ?_⟩
        simp only [Act.put, List.setIfInBounds_toArray, List.set_cons_succ, List.set_cons_zero]
        refine AnyF.ready (rs := [7]) (by kernel_rfl) (by simp) (ReadyF.op (some 6) (.alloc 26) rfl (.pointer (some ⟨wq7x25.heap.size, 0, none⟩)) (fun o ho => exec_alloc_agg _ 26 ho _ (HZ26 _)) (Hq7x26.alloc _) ?_ ReadyF.nil)
        have l0wq7x27 := Hq7x26.lt (g6) LV 9 (by simp)
        have l1wq7x27 := Hq7x26.lt (w.heap.size) KV 22 (by simp)
        have bwq7x27 := Hq7x26.1.size
        have Hq7x28 := Hq7x26.alloc (.cells ZR8 26)
        have Eq7x29 := (Hq7x26.sub (m := []) (fun p hp => by cases hp)).new ZR8 26
        simp only [Act.put, List.setIfInBounds_toArray, List.set_cons_succ, List.set_cons_zero]
        obtain ⟨wq7x27, hwq7x27⟩ : ∃ W, W = wq7x25.alloc (.cells ZR8 26) := ⟨_, rfl⟩
        rw [← hwq7x27] at Hq7x28 Eq7x29 ⊢
        clear hwq7x27
        exact F_to (by kernel_rfl) (by kernel_rfl) (Jq7_0 _ _ ⟨wq7x25.heap.size, rfl, Hq7x28, Eq7x29, by omega, by omega, by omega⟩)
      · have l0wq7x30 := Hq7x24.lt (g6) LV 9 (by simp)
        have l1wq7x30 := Hq7x24.lt (w.heap.size) KV 22 (by simp)
        have bwq7x30 := Hq7x24.1.size
        have Hq7x31 := Hq7x24.alloc (.cells ZR8 26)
        have Eq7x32 := (Hq7x24.sub (m := []) (fun p hp => by cases hp)).new ZR8 26
        simp only [Act.put, List.setIfInBounds_toArray, List.set_cons_succ, List.set_cons_zero]
        obtain ⟨wq7x30, hwq7x30⟩ : ∃ W, W = wq7x23.alloc (.cells ZR8 26) := ⟨_, rfl⟩
        rw [← hwq7x30] at Hq7x31 Eq7x32 ⊢
        clear hwq7x30
        exact F_to (by kernel_rfl) (by kernel_rfl) (Jq7_1 _ _ ⟨wq7x23.heap.size, rfl, Hq7x31, Eq7x32, by omega, by omega, by omega⟩)
    · have l0wq7x33 := HDq7x1.lt (g6) LV 9 (by simp)
      have l1wq7x33 := HDq7x1.lt (w.heap.size) KV 22 (by simp)
      have bwq7x33 := HDq7x1.1.size
      have Hq7x34 := HDq7x1.alloc (.cells ZR8 26)
      have Eq7x35 := (HDq7x1.sub (m := []) (fun p hp => by cases hp)).new ZR8 26
      simp only [Act.put, List.setIfInBounds_toArray, List.set_cons_succ, List.set_cons_zero]
      obtain ⟨wq7x33, hwq7x33⟩ : ∃ W, W = wdq7x2.alloc (.cells ZR8 26) := ⟨_, rfl⟩
      rw [← hwq7x33] at Hq7x34 Eq7x35 ⊢
      clear hwq7x33
      refine AnyF.ready (rs := [5]) (by kernel_rfl) (by simp) (ReadyF.call (some 17) 15 #[] #[] rfl #[] (by simp [Act.eval]) en15 _ (HC4.out _ (HG.out.below Hq7x34.1)) ?_ (fun c w' h => by cases h.1) (fun w' h => by cases h.1) ReadyF.nil)
      rintro v wq7x36 ⟨he, hb⟩
      cases he
      have Hq7x37 := Hq7x34.below hb
      have Eq7x38 := Eq7x35.below hb
      clear hb
      refine ⟨Hq7x37, ?_⟩
      simp only [Act.put, List.setIfInBounds_toArray, List.set_cons_succ, List.set_cons_zero]
      exact F_to (by kernel_rfl) (by kernel_rfl) (Jq7_1 _ _ ⟨wdq7x2.heap.size, rfl, Hq7x37, Eq7x38, by omega, by omega, by omega⟩)
  rintro a' w8 ⟨gq7s0, rfl, hk, e10, e11, e12⟩
  have HS9 := Lib.hid hk
  clear hk HS5
  go_upto_region 5 with fail
  refine wp_cut (fun a' W' => a' = { tmps := #[.int .u8 (n : Int), undef, .bool true, .slice (some ⟨w.heap.size, 0, none⟩) 4 4, .slice (some ⟨g6, 0, none⟩) 4 4, .int .i64 ((2 : Nat) : Int), .pointer (some ⟨gq7s0, 0, none⟩), .slice (some ⟨w.heap.size, 0, none⟩) 4 4, .slice (some ⟨g6, 0, none⟩) 4 4, .int .u8 (n : Int), .int .i64 (n : Int), .int .i64 ((2 : Nat) : Int), .slice (some ⟨w.heap.size, 0, none⟩) 4 4, .int .i64 ((2 : Nat) : Int), .pointer (some ⟨w.heap.size, 2, none⟩), .int .u64 2, .agg NN3, .agg PP7, .agg PP12, .agg PP12, .string BS, .string kL2, .slice (some ⟨g6, 0, none⟩) 4 4, .int .i64 ((2 : Nat) : Int), .pointer (some ⟨g6, 2, none⟩), .string kL2, .bool true, .bool true, .agg PP12, .bool true, .bool true, .bool true, .bool true, .bool true], defers := [] } ∧ Kt w [(g6, LV, 9), (w.heap.size, KV, 22)] W') ?_ ?_
  · refine wp_region_any (by kernel_rfl) ?_
    change wpAny _ _ _ _ _ _ _ (World.drew _)
    have HDq13x1 := HS9.out.drew
    clear HS9
    generalize w8.drew = wdq13x2 at *
    refine any_of_F (S := Kt w [(g6, LV, 9), (w.heap.size, KV, 22), (gq7s0, PP12, 26)]) (f := 1000) _ _ _ _ ?_
    refine AnyF.takeG (by rfl) 0 (some 19) (.load 26 (.tmp 6)) none (.agg PP12) rfl (by kernel_rfl) (by kernel_rfl) (by kernel_rfl) (fun _ _ _ h => h) rfl (fun o h => by obtain rfl := Option.some.inj h; rfl) (fun o ho w2 hw => exec_load_of _ 26 (.tmp 6) ho ⟨gq7s0, 0, none⟩ rfl _ (loadT26 IPP12 (hw.get (gq7s0) PP12 26 (by simp)))) HDq13x1 ?_
    simp only [Act.put, List.setIfInBounds_toArray, List.set_cons_succ, List.set_cons_zero]
    refine AnyF.takeG (by rfl) 3 (some 22) (.move (.tmp 4)) none (.slice (some ⟨g6, 0, none⟩) 4 4) rfl (by kernel_rfl) (by kernel_rfl) (by kernel_rfl) (fun _ _ _ h => h) rfl (fun o h => by obtain rfl := Option.some.inj h; rfl) (fun o ho w2 hw => exec_move (.tmp 4) ho _ rfl w2) HDq13x1 ?_
    simp only [Act.put, List.setIfInBounds_toArray, List.set_cons_succ, List.set_cons_zero]
    refine AnyF.takeG (by rfl) 4 (some 23) (.move (.tmp 5)) none (.int .i64 ((2 : Nat) : Int)) rfl (by kernel_rfl) (by kernel_rfl) (by kernel_rfl) (fun _ _ _ h => h) rfl (fun o h => by obtain rfl := Option.some.inj h; rfl) (fun o ho w2 hw => exec_move (.tmp 5) ho _ rfl w2) HDq13x1 ?_
    simp only [Act.put, List.setIfInBounds_toArray, List.set_cons_succ, List.set_cons_zero]
    refine AnyF.takeG (by rfl) 5 (some 24) (.indexAddr 49 (.tmp 22) (.tmp 23)) none (.pointer (some ⟨g6, 2, none⟩)) rfl (by kernel_rfl) (by kernel_rfl) (by kernel_rfl) (fun _ _ _ h => h) rfl (fun o h => by obtain rfl := Option.some.inj h; rfl) (fun o ho w2 hw => exec_ia49 (.tmp 22) (.tmp 23) ho (g6) 2 rfl rfl (by decide) w2) HDq13x1 ?_
    simp only [Act.put, List.setIfInBounds_toArray, List.set_cons_succ, List.set_cons_zero]
    refine AnyF.takeG (by rfl) 6 (some 25) (.load 9 (.tmp 24)) none (.string kL2) rfl (by kernel_rfl) (by kernel_rfl) (by kernel_rfl) (fun _ _ _ h => h) rfl (fun o h => by obtain rfl := Option.some.inj h; rfl) (fun o ho w2 hw => exec_load_one _ 9 (.tmp 24) ho ⟨g6, 2, none⟩ rfl _ (cell_part (hw.get (g6) LV 9 (by simp)) 2 _ CLV_2) _ Tryd.underlying9 rfl) HDq13x1 ?_
    simp only [Act.put, List.setIfInBounds_toArray, List.set_cons_succ, List.set_cons_zero]
    refine AnyF.ready (rs := [1]) (by kernel_rfl) (by simp) (ReadyF.call (some 20) 22 #[.tmp 19] #[26] rfl #[.agg PP12] (by simp [Act.eval]) en22 _ (HC13.out _) ?_ (fun c w' h => by cases h.1) (fun w' h => by cases h.1) ReadyF.nil)
    rintro v wq13x11 ⟨he, hb⟩
    cases he
    have Hq13x12 := HDq13x1.below hb
    clear hb
    refine ⟨Hq13x12, ?_⟩
    simp only [Act.put, List.setIfInBounds_toArray, List.set_cons_succ, List.set_cons_zero]
    refine AnyF.ready (rs := [2]) (by kernel_rfl) (by simp) (ReadyF.call (some 21) 27 #[.tmp 20] #[9] rfl #[.string BS] (by simp [Act.eval]) en27 _ (HC1.out _) ?_ (fun c w' h => by cases h.1) (fun w' h => by cases h.1) ReadyF.nil)
    rintro v wq13x13 ⟨he, hb⟩
    cases he
    have Hq13x14 := Hq13x12.below hb
    clear hb
    refine ⟨Hq13x14, ?_⟩
    simp only [Act.put, List.setIfInBounds_toArray, List.set_cons_succ, List.set_cons_zero]
    refine AnyF.takeG (by rfl) 7 (some 26) (.binOp .eql 9 (.tmp 21) (.tmp 25) 9) none (.bool true) rfl (by kernel_rfl) (by kernel_rfl) (by kernel_rfl) (fun _ _ _ h => h) rfl (fun o h => by obtain rfl := Option.some.inj h; rfl) (fun o ho w2 hw => exec_eq9_same (.tmp 21) (.tmp 25) ho kL2 rfl rfl w2) Hq13x14 ?_
    simp only [Act.put, List.setIfInBounds_toArray, List.set_cons_succ, List.set_cons_zero]
    refine AnyF.takeG (by rfl) 8 (some 27) (.move (.tmp 26)) none (.bool true) rfl (by kernel_rfl) (by kernel_rfl) (by kernel_rfl) (fun _ _ _ h => h) rfl (fun o h => by obtain rfl := Option.some.inj h; rfl) (fun o ho w2 hw => exec_move (.tmp 26) ho _ rfl w2) Hq13x14 ?_
    simp only [Act.put, List.setIfInBounds_toArray, List.set_cons_succ, List.set_cons_zero]
    refine AnyF.takeG (by rfl) 9 (some 28) (.load 26 (.tmp 6)) (some (8, true)) (.agg PP12) rfl (by kernel_rfl) (by kernel_rfl) (by kernel_rfl) (fun _ _ _ h => h) rfl (fun o h => by obtain rfl := Option.some.inj h; rfl) (fun o ho w2 hw => exec_load_of _ 26 (.tmp 6) ho ⟨gq7s0, 0, none⟩ rfl _ (loadT26 IPP12 (hw.get (gq7s0) PP12 26 (by simp)))) Hq13x14 ?_
    simp only [Act.put, List.setIfInBounds_toArray, List.set_cons_succ, List.set_cons_zero]
    refine AnyF.ready (rs := [10]) (by kernel_rfl) (by simp) (ReadyF.callG (some 29) 13 #[.tmp 28] #[26] (some (8, true)) rfl (fun o h => by obtain rfl := Option.some.inj h; rfl) #[.agg PP12] (by simp [Act.eval]) en13 _ (HC14.out _ (HG.out.below Hq13x14.1)) ?_ (fun c w' h => by cases h.1) (fun w' h => by cases h.1) ReadyF.nil)
    rintro v wq13x15 ⟨he, hb⟩
    cases he
    have Hq13x16 := Hq13x14.below hb
    clear hb
    refine ⟨Hq13x16, ?_⟩
    simp only [Act.put, List.setIfInBounds_toArray, List.set_cons_succ, List.set_cons_zero]
    refine AnyF.takeG (by rfl) 11 (some 30) (.pick (.tmp 27) (.tmp 29) (.const (.bool false))) none (.bool true) rfl (by kernel_rfl) (by kernel_rfl) (by kernel_rfl) (fun _ _ _ h => h) rfl (fun o h => by obtain rfl := Option.some.inj h; rfl) (fun o ho w2 hw => exec_pickt (.tmp 27) (.tmp 29) (.const (.bool false)) ho rfl _ rfl w2) Hq13x16 ?_
    simp only [Act.put, List.setIfInBounds_toArray, List.set_cons_succ, List.set_cons_zero]
    refine AnyF.takeG (by rfl) 12 (some 31) (.move (.tmp 30)) none (.bool true) rfl (by kernel_rfl) (by kernel_rfl) (by kernel_rfl) (fun _ _ _ h => h) rfl (fun o h => by obtain rfl := Option.some.inj h; rfl) (fun o ho w2 hw => exec_move (.tmp 30) ho _ rfl w2) Hq13x16 ?_
    simp only [Act.put, List.setIfInBounds_toArray, List.set_cons_succ, List.set_cons_zero]
    refine AnyF.ready (rs := [13]) (by kernel_rfl) (by simp) (ReadyF.callG (some 32) 10 #[] #[] (some (12, true)) rfl (fun o h => by obtain rfl := Option.some.inj h; rfl) #[] (by simp [Act.eval]) en10 _ (HC15.out _ (HG.out.below Hq13x16.1)) ?_ (fun c w' h => by cases h.1) (fun w' h => by cases h.1) ReadyF.nil)
    rintro v wq13x17 ⟨he, hb⟩
    cases he
    have Hq13x18 := Hq13x16.below hb
    clear hb
    refine ⟨Hq13x18, ?_⟩
    simp only [Act.put, List.setIfInBounds_toArray, List.set_cons_succ, List.set_cons_zero]
    refine AnyF.takeG (by rfl) 14 (some 33) (.pick (.tmp 31) (.tmp 32) (.const (.bool false))) none (.bool true) rfl (by kernel_rfl) (by kernel_rfl) (by kernel_rfl) (fun _ _ _ h => h) rfl (fun o h => by obtain rfl := Option.some.inj h; rfl) (fun o ho w2 hw => exec_pickt (.tmp 31) (.tmp 32) (.const (.bool false)) ho rfl _ rfl w2) Hq13x18 ?_
    simp only [Act.put, List.setIfInBounds_toArray, List.set_cons_succ, List.set_cons_zero]
    refine AnyF.takeG (by rfl) 15 (some 2) (.assign (.tmp 33)) none (.bool true) rfl (by kernel_rfl) (by kernel_rfl) (by kernel_rfl) (fun _ _ _ h => h) rfl (fun o h => by obtain rfl := Option.some.inj h; rfl) (fun o ho w2 hw => exec_assign (.tmp 33) ho _ rfl w2) Hq13x18 ?_
    simp only [Act.put, List.setIfInBounds_toArray, List.set_cons_succ, List.set_cons_zero]
    refine AnyF.done (by kernel_rfl) ?_ _
    refine nrm_intro ⟨rfl, Hq13x18.sub (fun p hp => by simp at hp; rcases hp with rfl | rfl <;> simp)⟩
  rintro a' w14 ⟨rfl, hk⟩
  have HS15 := Lib.hid hk
  clear hk HS9
  go_wp2
  go_ret
  exact ⟨rfl, HS15.out.1⟩
set_option maxRecDepth 100000 in
set_option maxHeartbeats 8000000 in
theorem known_any_3 (n : Nat) (Wn : n < 256) (hj0 : n % 4 = 3) (w : World) (hG0 : Glob w) :
    Calls Tryd.prog 8 #[.int .u8 (n : Int)] w fun e w' => e = .returned (.bool true) ∧ Below w.heap.size w w' := by
  have HG := Lib.hid hG0
  have hj := Lib.hid hj0
  obtain ⟨pq, hpq0⟩ : ∃ pq, mulN (3) (baseN) = pq := ⟨_, rfl⟩
  have hpq := Lib.hid hpq0
  have hon : Hid (onN pq) := Lib.hid (by rw [← hpq0]; exact mulN_on baseN_on 3)
  obtain ⟨BS, hBS⟩ : ∃ BS : ByteArray, Hid (BS = ⟨(bytesN (encP ((pq).1, (pq).2))).toArray⟩) := ⟨_, Lib.hid rfl⟩
  have hxx : ∀ w, Calls Tryd.prog 27 #[.string BS] w fun e w' => e = .returned (.string kL3) ∧ Below w.heap.size w w' := fun w => by
    have hl : BS.size = 32 := by rw [hBS.out]; exact bytesN_length _
    have h := hex_any BS (by omega) (by omega) w
    rw [show (⟨(hex BS.data.toList).toArray⟩ : ByteArray) = kL3 by rw [hBS.out, ← hpq0]; exact known_3] at h
    exact h
  have HC1 := Lib.hid (hxx)
  have HC4 : Hid (∀ w, Glob w → _) := Lib.hid (base_any)
  have HC9 : Hid (∀ w, Glob w → _) := Lib.hid (mul_pt (3) (baseN) (by decide) (baseN_on))
  try dsimp only at HC9
  rw [hpq.out] at HC9
  have HC13 := Lib.hid (bytes_pt ((pq).1) ((pq).2) (pp_lt (onN_lt (hon.out)).1) (onN_lt (hon.out)).2)
  rw [← hBS.out] at HC13
  have HC14 : Hid (∀ w, Glob w → _) := Lib.hid (on_pt ((pq).1) ((pq).2) (hon.out))
  have HC15 : Hid (∀ w, Glob w → _) := Lib.hid (awake_any)
  obtain ⟨NN3, hNN3⟩ : ∃ zz9, Hid (zz9 = num (3)) := ⟨_, Lib.hid rfl⟩
  have INN3 : IsNum NN3 := by rw [hNN3.out]; exact isNum _
  obtain ⟨NN5, hNN5⟩ : ∃ zz9, Hid (zz9 = num ((baseN).1)) := ⟨_, Lib.hid rfl⟩
  have INN5 : IsNum NN5 := by rw [hNN5.out]; exact isNum _
  obtain ⟨NN6, hNN6⟩ : ∃ zz9, Hid (zz9 = num ((baseN).2)) := ⟨_, Lib.hid rfl⟩
  have INN6 : IsNum NN6 := by rw [hNN6.out]; exact isNum _
  obtain ⟨PP7, hPP7⟩ : ∃ zz9, Hid (zz9 = NN5 ++ NN6) := ⟨_, Lib.hid rfl⟩
  have IPP7 : IsRw 8 PP7 := by rw [hPP7.out]; exact rw_app (isRw4 INN5) (isRw4 INN6)
  have SPP7_0 : Part PP7 0 NN5 := by rw [hPP7.out]; exact part_left 0 (part_all NN5) NN6
  have SPP7_4 : Part PP7 4 NN6 := by rw [hPP7.out]; exact part_right (NN5) NN6 4 (by simp [INN5.size])
  obtain ⟨ZR8, hZR8⟩ : ∃ zz9, Hid (zz9 = (rowOf .u64 8 (fun _ => 0)).toArray) := ⟨_, Lib.hid rfl⟩
  have SZZR8 : ZR8.size = 8 := by rw [hZR8.out]; rfl
  obtain ⟨NN10, hNN10⟩ : ∃ zz9, Hid (zz9 = num ((pq).1)) := ⟨_, Lib.hid rfl⟩
  have INN10 : IsNum NN10 := by rw [hNN10.out]; exact isNum _
  obtain ⟨NN11, hNN11⟩ : ∃ zz9, Hid (zz9 = num ((pq).2)) := ⟨_, Lib.hid rfl⟩
  have INN11 : IsNum NN11 := by rw [hNN11.out]; exact isNum _
  obtain ⟨PP12, hPP12⟩ : ∃ zz9, Hid (zz9 = NN10 ++ NN11) := ⟨_, Lib.hid rfl⟩
  have IPP12 : IsRw 8 PP12 := by rw [hPP12.out]; exact rw_app (isRw4 INN10) (isRw4 INN11)
  have SPP12_0 : Part PP12 0 NN10 := by rw [hPP12.out]; exact part_left 0 (part_all NN10) NN11
  have SPP12_4 : Part PP12 4 NN11 := by rw [hPP12.out]; exact part_right (NN10) NN11 4 (by simp [INN10.size])
  have HZ26 : ∀ w, (zeroValue 26).run Tryd.prog w = .ok (.agg ZR8) w := by rw [hZR8.out]; exact zeroT26
  have BF2 : ∀ w, (Instr.build 24 #[(0, .int .u64 3)]).run Tryd.prog w = .ok (.agg NN3) w := by rw [hNN3.out]; exact build_run 3 (by decide)
  try simp only [← hNN3.out, ← hNN5.out, ← hNN6.out, ← hNN10.out, ← hNN11.out] at HC1 HC4 HC9 HC13 HC14 HC15 ⊢
  try simp only [← hPP7.out, ← hZR8.out, ← hPP12.out] at HC1 HC4 HC9 HC13 HC14 HC15 ⊢
  clear hNN3 hNN5 hNN6 hPP7 hZR8 hNN10 hNN11 hPP12 hxx hj0 hG0 hBS hpq0
  go_enter Tryd.func8, Tryd.ntmps8
  have HS : Hid (Kt w [] w) := Lib.hid (Kt.nil w)
  go_upto_region 0 with fail
  refine wp_region_list ?_
  refine wpList_run rfl (.bool false) (exec_assign (.const (.bool false)) rfl _ rfl _) ?_
  simp only [Act.put, List.setIfInBounds_toArray, List.set_cons_succ, List.set_cons_zero]
  refine wpList_nil ?_
  go_upto_region 1 with fail
  refine wp_region_list ?_
  refine wpList_run rfl _ (exec_bs48 _ _ _ _ _ rfl rfl rfl rfl rfl) ?_
  simp only [Act.put, List.setIfInBounds_toArray, List.set_cons_succ, List.set_cons_zero]
  have bg3 := HS.out.1.size
  have HS2 := Lib.hid (HS.out.new KV 22)
  clear HS
  generalize w.alloc (.cells KV 22) = w1 at *
  refine wpList_run rfl (.slice (some ⟨w.heap.size, 0, none⟩) 4 4) (exec_assign (.tmp 7) rfl _ rfl _) ?_
  simp only [Act.put, List.setIfInBounds_toArray, List.set_cons_succ, List.set_cons_zero]
  refine wpList_nil ?_
  go_upto_region 2 with fail
  refine wp_region_list ?_
  refine wpList_run rfl _ (exec_bs49 _ _ _ _ _ rfl rfl rfl rfl rfl) ?_
  simp only [Act.put, List.setIfInBounds_toArray, List.set_cons_succ, List.set_cons_zero]
  have lg6_0 := HS2.out.lt (w.heap.size) KV 22 (by simp)
  have bg6 := HS2.out.1.size
  have HS5 := Lib.hid (HS2.out.new LV 9)
  clear HS2
  generalize w1.alloc (.cells LV 9) = w4 at *
  generalize w1.heap.size = g6 at *
  refine wpList_run rfl (.slice (some ⟨g6, 0, none⟩) 4 4) (exec_assign (.tmp 8) rfl _ rfl _) ?_
  simp only [Act.put, List.setIfInBounds_toArray, List.set_cons_succ, List.set_cons_zero]
  refine wpList_nil ?_
  go_upto_region 3 with fail
  refine wp_region_list ?_
  refine wpList_run rfl (.int .u8 (n : Int)) (exec_move (.tmp 0) rfl _ rfl _) ?_
  simp only [Act.put, List.setIfInBounds_toArray, List.set_cons_succ, List.set_cons_zero]
  refine wpList_run rfl (.int .i64 (n : Int)) (exec_convG 5 3 (.tmp 9) rfl _ rfl _ _ _ (cv53 n Wn _)) ?_
  simp only [Act.put, List.setIfInBounds_toArray, List.set_cons_succ, List.set_cons_zero]
  refine wpList_run rfl (.int .i64 ((3 : Nat) : Int)) (exec_remk (.tmp 10) rfl rfl n 3 hj.out rfl _) ?_
  simp only [Act.put, List.setIfInBounds_toArray, List.set_cons_succ, List.set_cons_zero]
  refine wpList_run rfl (.int .i64 ((3 : Nat) : Int)) (exec_assign (.tmp 11) rfl _ rfl _) ?_
  simp only [Act.put, List.setIfInBounds_toArray, List.set_cons_succ, List.set_cons_zero]
  refine wpList_nil ?_
  go_upto_region 4 with fail
  refine wp_cut (fun a' W' => ∃ gq7s0, a' = { tmps := #[.int .u8 (n : Int), undef, .bool false, .slice (some ⟨w.heap.size, 0, none⟩) 4 4, .slice (some ⟨g6, 0, none⟩) 4 4, .int .i64 ((3 : Nat) : Int), .pointer (some ⟨gq7s0, 0, none⟩), .slice (some ⟨w.heap.size, 0, none⟩) 4 4, .slice (some ⟨g6, 0, none⟩) 4 4, .int .u8 (n : Int), .int .i64 (n : Int), .int .i64 ((3 : Nat) : Int), .slice (some ⟨w.heap.size, 0, none⟩) 4 4, .int .i64 ((3 : Nat) : Int), .pointer (some ⟨w.heap.size, 3, none⟩), .int .u64 3, .agg NN3, .agg PP7, .agg PP12, undef, undef, undef, undef, undef, undef, undef, undef, undef, undef, undef, undef, undef, undef, undef], defers := [] } ∧ Kt w [(g6, LV, 9), (w.heap.size, KV, 22), (gq7s0, PP12, 26)] W' ∧ w.heap.size ≤ gq7s0 ∧ gq7s0 ≠ g6 ∧ gq7s0 ≠ w.heap.size) ?_ ?_
  · refine wp_region_any (by kernel_rfl) ?_
    change wpAny _ _ _ _ _ _ _ (World.drew _)
    have HDq7x1 := HS5.out.drew
    clear HS5
    generalize w4.drew = wdq7x2 at *
    refine any_of_F (S := Kt w [(g6, LV, 9), (w.heap.size, KV, 22)]) (f := 1000) _ _ _ _ ?_
    refine F_have 1 #[true, true, true, true, true, true, true, true, false] (fun aJ W => ∃ gjq7_0_0, aJ = { tmps := #[.int .u8 (n : Int), undef, .bool false, .slice (some ⟨w.heap.size, 0, none⟩) 4 4, .slice (some ⟨g6, 0, none⟩) 4 4, .int .i64 ((3 : Nat) : Int), .pointer (some ⟨gjq7_0_0, 0, none⟩), .slice (some ⟨w.heap.size, 0, none⟩) 4 4, .slice (some ⟨g6, 0, none⟩) 4 4, .int .u8 (n : Int), .int .i64 (n : Int), .int .i64 ((3 : Nat) : Int), .slice (some ⟨w.heap.size, 0, none⟩) 4 4, .int .i64 ((3 : Nat) : Int), .pointer (some ⟨w.heap.size, 3, none⟩), .int .u64 3, .agg NN3, .agg PP7, .agg PP12, undef, undef, undef, undef, undef, undef, undef, undef, undef, undef, undef, undef, undef, undef, undef], defers := [] } ∧ Kt w [(g6, LV, 9), (w.heap.size, KV, 22)] W ∧ Kt w [(gjq7_0_0, ZR8, 26)] W ∧ w.heap.size ≤ gjq7_0_0 ∧ gjq7_0_0 ≠ g6 ∧ gjq7_0_0 ≠ w.heap.size) ?_ ?_
    · rintro aJ wq7x11 ⟨gjq7_0_0, rfl, Hq7x12, Eq7x13, fJq7_0_0, fJq7_0_1, fJq7_0_2⟩
      refine AnyF.ready (rs := [8]) (by kernel_rfl) (by simp) (ReadyF.op0 (.store 26 (.tmp 6) (.tmp 18)) rfl (fun o ho => exec_storeT26 wq7x11 (.tmp 6) (.tmp 18) ho (gjq7_0_0) rfl PP12 IPP12 rfl ZR8 26 (Eq7x13.get (gjq7_0_0) ZR8 26 (by simp)) SZZR8) (Hq7x12.set (gjq7_0_0) PP12 ZR8 26 (Eq7x13.get (gjq7_0_0) ZR8 26 (by simp)) (by omega) (fun p hp => by simp at hp; rcases hp with rfl | rfl <;> exact .inr ⟨by simp, by simp only; omega⟩)) ?_ ReadyF.nil)
      have Hq7x15 := Hq7x12.set (gjq7_0_0) PP12 ZR8 26 (Eq7x13.get (gjq7_0_0) ZR8 26 (by simp)) (by omega) (m := [(g6, LV, 9), (w.heap.size, KV, 22)]) (fun p hp => by simp at hp; rcases hp with rfl | rfl <;> exact .inr ⟨by simp, by simp only; omega⟩)
      have Eq7x16 := Eq7x13.set (gjq7_0_0) PP12 ZR8 26 (Eq7x13.get (gjq7_0_0) ZR8 26 (by simp)) (by omega) (m := [(gjq7_0_0, PP12, 26)]) (fun p hp => by simp at hp; subst hp; first | exact .inl rfl | exact .inr ⟨by simp, by simp only; omega⟩)
      generalize wq7x11.setRow (gjq7_0_0) PP12 = wq7x14 at *
      refine AnyF.done (by kernel_rfl) ?_ _
      refine nrm_intro ⟨gjq7_0_0, rfl, (Hq7x15.app Eq7x16).sub (fun p hp => by simp at hp; rcases hp with rfl | rfl | rfl <;> simp), by omega, by omega, by omega⟩
    intro Jq7_0
    refine F_have 2 #[true, true, true, true, true, true, false, true, false] (fun aJ W => ∃ gjq7_1_0, aJ = { tmps := #[.int .u8 (n : Int), undef, .bool false, .slice (some ⟨w.heap.size, 0, none⟩) 4 4, .slice (some ⟨g6, 0, none⟩) 4 4, .int .i64 ((3 : Nat) : Int), .pointer (some ⟨gjq7_1_0, 0, none⟩), .slice (some ⟨w.heap.size, 0, none⟩) 4 4, .slice (some ⟨g6, 0, none⟩) 4 4, .int .u8 (n : Int), .int .i64 (n : Int), .int .i64 ((3 : Nat) : Int), .slice (some ⟨w.heap.size, 0, none⟩) 4 4, .int .i64 ((3 : Nat) : Int), .pointer (some ⟨w.heap.size, 3, none⟩), .int .u64 3, .agg NN3, .agg PP7, undef, undef, undef, undef, undef, undef, undef, undef, undef, undef, undef, undef, undef, undef, undef, undef], defers := [] } ∧ Kt w [(g6, LV, 9), (w.heap.size, KV, 22)] W ∧ Kt w [(gjq7_1_0, ZR8, 26)] W ∧ w.heap.size ≤ gjq7_1_0 ∧ gjq7_1_0 ≠ g6 ∧ gjq7_1_0 ≠ w.heap.size) ?_ ?_
    · rintro aJ wq7x17 ⟨gjq7_1_0, rfl, Hq7x18, Eq7x19, fJq7_1_0, fJq7_1_1, fJq7_1_2⟩
      refine AnyF.ready (rs := [6]) (by kernel_rfl) (by simp) (ReadyF.call (some 18) 20 #[.tmp 16, .tmp 17] #[24, 26] rfl #[.agg NN3, .agg PP7] (by simp [Act.eval]) en20 _ (HC9.out _ (HG.out.below Hq7x18.1)) ?_ (fun c w' h => by cases h.1) (fun w' h => by cases h.1) ReadyF.nil)
      rintro v wq7x20 ⟨he, hb⟩
      cases he
      have Hq7x21 := Hq7x18.below hb
      have Eq7x22 := Eq7x19.below hb
      clear hb
      refine ⟨Hq7x21, ?_⟩
      simp only [Act.put, List.setIfInBounds_toArray, List.set_cons_succ, List.set_cons_zero]
      exact F_to (by kernel_rfl) (by kernel_rfl) (Jq7_0 _ _ ⟨gjq7_1_0, rfl, Hq7x21, Eq7x22, by omega, by omega, by omega⟩)
    intro Jq7_1
    refine AnyF.takeG (by rfl) 0 (some 12) (.move (.tmp 3)) none (.slice (some ⟨w.heap.size, 0, none⟩) 4 4) rfl (by kernel_rfl) (by kernel_rfl) (by kernel_rfl) (fun _ _ _ h => h) rfl (fun o h => by obtain rfl := Option.some.inj h; rfl) (fun o ho w2 hw => exec_move (.tmp 3) ho _ rfl w2) HDq7x1 ?_
    simp only [Act.put, List.setIfInBounds_toArray, List.set_cons_succ, List.set_cons_zero]
    refine AnyF.takeG (by rfl) 1 (some 13) (.move (.tmp 5)) none (.int .i64 ((3 : Nat) : Int)) rfl (by kernel_rfl) (by kernel_rfl) (by kernel_rfl) (fun _ _ _ h => h) rfl (fun o h => by obtain rfl := Option.some.inj h; rfl) (fun o ho w2 hw => exec_move (.tmp 5) ho _ rfl w2) HDq7x1 ?_
    simp only [Act.put, List.setIfInBounds_toArray, List.set_cons_succ, List.set_cons_zero]
    refine AnyF.takeG (by rfl) 2 (some 14) (.indexAddr 48 (.tmp 12) (.tmp 13)) none (.pointer (some ⟨w.heap.size, 3, none⟩)) rfl (by kernel_rfl) (by kernel_rfl) (by kernel_rfl) (fun _ _ _ h => h) rfl (fun o h => by obtain rfl := Option.some.inj h; rfl) (fun o ho w2 hw => exec_ia48 (.tmp 12) (.tmp 13) ho (w.heap.size) 3 rfl rfl (by decide) w2) HDq7x1 ?_
    simp only [Act.put, List.setIfInBounds_toArray, List.set_cons_succ, List.set_cons_zero]
    refine AnyF.takeG (by rfl) 3 (some 15) (.load 22 (.tmp 14)) none (.int .u64 3) rfl (by kernel_rfl) (by kernel_rfl) (by kernel_rfl) (fun _ _ _ h => h) rfl (fun o h => by obtain rfl := Option.some.inj h; rfl) (fun o ho w2 hw => exec_load_one _ 22 (.tmp 14) ho ⟨w.heap.size, 3, none⟩ rfl _ (cell_part (hw.get (w.heap.size) KV 22 (by simp)) 3 _ CKV_3) _ Tryd.underlying22 rfl) HDq7x1 ?_
    simp only [Act.put, List.setIfInBounds_toArray, List.set_cons_succ, List.set_cons_zero]
    refine AnyF.takeG (by rfl) 4 (some 16) (.build 24 #[(0, .tmp 15)]) none (.agg NN3) rfl (by kernel_rfl) (by kernel_rfl) (by kernel_rfl) (fun _ _ _ h => h) rfl (fun o h => by obtain rfl := Option.some.inj h; rfl) (fun o ho w2 hw => exec_buildN _ 24 #[(0, .tmp 15)] ho #[(0, .int .u64 3)] (by simp [Act.eval]) _ (BF2 _)) HDq7x1 ?_
    simp only [Act.put, List.setIfInBounds_toArray, List.set_cons_succ, List.set_cons_zero]
    refine AnyF.ready (rs := [5, 7]) (by kernel_rfl) (by simp) (ReadyF.call (some 17) 15 #[] #[] rfl #[] (by simp [Act.eval]) en15 _ (HC4.out _ (HG.out.below HDq7x1.1)) ?_ (fun c w' h => by cases h.1) (fun w' h => by cases h.1) (ReadyF.op (some 6) (.alloc 26) rfl (.pointer (some ⟨wdq7x2.heap.size, 0, none⟩)) (fun o ho => exec_alloc_agg _ 26 ho _ (HZ26 _)) (HDq7x1.alloc _) ?_ ReadyF.nil))
    · rintro v wq7x23 ⟨he, hb⟩
      cases he
      have Hq7x24 := HDq7x1.below hb
      clear hb
      refine ⟨Hq7x24, ?_⟩
      simp only [Act.put, List.setIfInBounds_toArray, List.set_cons_succ, List.set_cons_zero]
      refine AnyF.ready (rs := [6, 7]) (by kernel_rfl) (by simp) (ReadyF.call (some 18) 20 #[.tmp 16, .tmp 17] #[24, 26] rfl #[.agg NN3, .agg PP7] (by simp [Act.eval]) en20 _ (HC9.out _ (HG.out.below Hq7x24.1)) ?_ (fun c w' h => by cases h.1) (fun w' h => by cases h.1) (ReadyF.op (some 6) (.alloc 26) rfl (.pointer (some ⟨wq7x23.heap.size, 0, none⟩)) (fun o ho => exec_alloc_agg _ 26 ho _ (HZ26 _)) (Hq7x24.alloc _) ?_ ReadyF.nil))
      · rintro v wq7x25 ⟨he, hb⟩
        cases he
        have Hq7x26 := Hq7x24.below hb
        clear hb
        refine ⟨Hq7x26, ?_⟩
        simp only [Act.put, List.setIfInBounds_toArray, List.set_cons_succ, List.set_cons_zero]
        refine AnyF.ready (rs := [7]) (by kernel_rfl) (by simp) (ReadyF.op (some 6) (.alloc 26) rfl (.pointer (some ⟨wq7x25.heap.size, 0, none⟩)) (fun o ho => exec_alloc_agg _ 26 ho _ (HZ26 _)) (Hq7x26.alloc _) ?_ ReadyF.nil)
        have l0wq7x27 := Hq7x26.lt (g6) LV 9 (by simp)
        have l1wq7x27 := Hq7x26.lt (w.heap.size) KV 22 (by simp)
        have bwq7x27 := Hq7x26.1.size
        have Hq7x28 := Hq7x26.alloc (.cells ZR8 26)
        have Eq7x29 := (Hq7x26.sub (m := []) (fun p hp => by cases hp)).new ZR8 26
        simp only [Act.put, List.setIfInBounds_toArray, List.set_cons_succ, List.set_cons_zero]
        obtain ⟨wq7x27, hwq7x27⟩ : ∃ W, W = wq7x25.alloc (.cells ZR8 26) := ⟨_, rfl⟩
        rw [← hwq7x27] at Hq7x28 Eq7x29 ⊢
        clear hwq7x27
        exact F_to (by kernel_rfl) (by kernel_rfl) (Jq7_0 _ _ ⟨wq7x25.heap.size, rfl, Hq7x28, Eq7x29, by omega, by omega, by omega⟩)
      · have l0wq7x30 := Hq7x24.lt (g6) LV 9 (by simp)
        have l1wq7x30 := Hq7x24.lt (w.heap.size) KV 22 (by simp)
        have bwq7x30 := Hq7x24.1.size
        have Hq7x31 := Hq7x24.alloc (.cells ZR8 26)
        have Eq7x32 := (Hq7x24.sub (m := []) (fun p hp => by cases hp)).new ZR8 26
        simp only [Act.put, List.setIfInBounds_toArray, List.set_cons_succ, List.set_cons_zero]
        obtain ⟨wq7x30, hwq7x30⟩ : ∃ W, W = wq7x23.alloc (.cells ZR8 26) := ⟨_, rfl⟩
        rw [← hwq7x30] at Hq7x31 Eq7x32 ⊢
        clear hwq7x30
        exact F_to (by kernel_rfl) (by kernel_rfl) (Jq7_1 _ _ ⟨wq7x23.heap.size, rfl, Hq7x31, Eq7x32, by omega, by omega, by omega⟩)
    · have l0wq7x33 := HDq7x1.lt (g6) LV 9 (by simp)
      have l1wq7x33 := HDq7x1.lt (w.heap.size) KV 22 (by simp)
      have bwq7x33 := HDq7x1.1.size
      have Hq7x34 := HDq7x1.alloc (.cells ZR8 26)
      have Eq7x35 := (HDq7x1.sub (m := []) (fun p hp => by cases hp)).new ZR8 26
      simp only [Act.put, List.setIfInBounds_toArray, List.set_cons_succ, List.set_cons_zero]
      obtain ⟨wq7x33, hwq7x33⟩ : ∃ W, W = wdq7x2.alloc (.cells ZR8 26) := ⟨_, rfl⟩
      rw [← hwq7x33] at Hq7x34 Eq7x35 ⊢
      clear hwq7x33
      refine AnyF.ready (rs := [5]) (by kernel_rfl) (by simp) (ReadyF.call (some 17) 15 #[] #[] rfl #[] (by simp [Act.eval]) en15 _ (HC4.out _ (HG.out.below Hq7x34.1)) ?_ (fun c w' h => by cases h.1) (fun w' h => by cases h.1) ReadyF.nil)
      rintro v wq7x36 ⟨he, hb⟩
      cases he
      have Hq7x37 := Hq7x34.below hb
      have Eq7x38 := Eq7x35.below hb
      clear hb
      refine ⟨Hq7x37, ?_⟩
      simp only [Act.put, List.setIfInBounds_toArray, List.set_cons_succ, List.set_cons_zero]
      exact F_to (by kernel_rfl) (by kernel_rfl) (Jq7_1 _ _ ⟨wdq7x2.heap.size, rfl, Hq7x37, Eq7x38, by omega, by omega, by omega⟩)
  rintro a' w8 ⟨gq7s0, rfl, hk, e10, e11, e12⟩
  have HS9 := Lib.hid hk
  clear hk HS5
  go_upto_region 5 with fail
  refine wp_cut (fun a' W' => a' = { tmps := #[.int .u8 (n : Int), undef, .bool true, .slice (some ⟨w.heap.size, 0, none⟩) 4 4, .slice (some ⟨g6, 0, none⟩) 4 4, .int .i64 ((3 : Nat) : Int), .pointer (some ⟨gq7s0, 0, none⟩), .slice (some ⟨w.heap.size, 0, none⟩) 4 4, .slice (some ⟨g6, 0, none⟩) 4 4, .int .u8 (n : Int), .int .i64 (n : Int), .int .i64 ((3 : Nat) : Int), .slice (some ⟨w.heap.size, 0, none⟩) 4 4, .int .i64 ((3 : Nat) : Int), .pointer (some ⟨w.heap.size, 3, none⟩), .int .u64 3, .agg NN3, .agg PP7, .agg PP12, .agg PP12, .string BS, .string kL3, .slice (some ⟨g6, 0, none⟩) 4 4, .int .i64 ((3 : Nat) : Int), .pointer (some ⟨g6, 3, none⟩), .string kL3, .bool true, .bool true, .agg PP12, .bool true, .bool true, .bool true, .bool true, .bool true], defers := [] } ∧ Kt w [(g6, LV, 9), (w.heap.size, KV, 22)] W') ?_ ?_
  · refine wp_region_any (by kernel_rfl) ?_
    change wpAny _ _ _ _ _ _ _ (World.drew _)
    have HDq13x1 := HS9.out.drew
    clear HS9
    generalize w8.drew = wdq13x2 at *
    refine any_of_F (S := Kt w [(g6, LV, 9), (w.heap.size, KV, 22), (gq7s0, PP12, 26)]) (f := 1000) _ _ _ _ ?_
    refine AnyF.takeG (by rfl) 0 (some 19) (.load 26 (.tmp 6)) none (.agg PP12) rfl (by kernel_rfl) (by kernel_rfl) (by kernel_rfl) (fun _ _ _ h => h) rfl (fun o h => by obtain rfl := Option.some.inj h; rfl) (fun o ho w2 hw => exec_load_of _ 26 (.tmp 6) ho ⟨gq7s0, 0, none⟩ rfl _ (loadT26 IPP12 (hw.get (gq7s0) PP12 26 (by simp)))) HDq13x1 ?_
    simp only [Act.put, List.setIfInBounds_toArray, List.set_cons_succ, List.set_cons_zero]
    refine AnyF.takeG (by rfl) 3 (some 22) (.move (.tmp 4)) none (.slice (some ⟨g6, 0, none⟩) 4 4) rfl (by kernel_rfl) (by kernel_rfl) (by kernel_rfl) (fun _ _ _ h => h) rfl (fun o h => by obtain rfl := Option.some.inj h; rfl) (fun o ho w2 hw => exec_move (.tmp 4) ho _ rfl w2) HDq13x1 ?_
    simp only [Act.put, List.setIfInBounds_toArray, List.set_cons_succ, List.set_cons_zero]
    refine AnyF.takeG (by rfl) 4 (some 23) (.move (.tmp 5)) none (.int .i64 ((3 : Nat) : Int)) rfl (by kernel_rfl) (by kernel_rfl) (by kernel_rfl) (fun _ _ _ h => h) rfl (fun o h => by obtain rfl := Option.some.inj h; rfl) (fun o ho w2 hw => exec_move (.tmp 5) ho _ rfl w2) HDq13x1 ?_
    simp only [Act.put, List.setIfInBounds_toArray, List.set_cons_succ, List.set_cons_zero]
    refine AnyF.takeG (by rfl) 5 (some 24) (.indexAddr 49 (.tmp 22) (.tmp 23)) none (.pointer (some ⟨g6, 3, none⟩)) rfl (by kernel_rfl) (by kernel_rfl) (by kernel_rfl) (fun _ _ _ h => h) rfl (fun o h => by obtain rfl := Option.some.inj h; rfl) (fun o ho w2 hw => exec_ia49 (.tmp 22) (.tmp 23) ho (g6) 3 rfl rfl (by decide) w2) HDq13x1 ?_
    simp only [Act.put, List.setIfInBounds_toArray, List.set_cons_succ, List.set_cons_zero]
    refine AnyF.takeG (by rfl) 6 (some 25) (.load 9 (.tmp 24)) none (.string kL3) rfl (by kernel_rfl) (by kernel_rfl) (by kernel_rfl) (fun _ _ _ h => h) rfl (fun o h => by obtain rfl := Option.some.inj h; rfl) (fun o ho w2 hw => exec_load_one _ 9 (.tmp 24) ho ⟨g6, 3, none⟩ rfl _ (cell_part (hw.get (g6) LV 9 (by simp)) 3 _ CLV_3) _ Tryd.underlying9 rfl) HDq13x1 ?_
    simp only [Act.put, List.setIfInBounds_toArray, List.set_cons_succ, List.set_cons_zero]
    refine AnyF.ready (rs := [1]) (by kernel_rfl) (by simp) (ReadyF.call (some 20) 22 #[.tmp 19] #[26] rfl #[.agg PP12] (by simp [Act.eval]) en22 _ (HC13.out _) ?_ (fun c w' h => by cases h.1) (fun w' h => by cases h.1) ReadyF.nil)
    rintro v wq13x11 ⟨he, hb⟩
    cases he
    have Hq13x12 := HDq13x1.below hb
    clear hb
    refine ⟨Hq13x12, ?_⟩
    simp only [Act.put, List.setIfInBounds_toArray, List.set_cons_succ, List.set_cons_zero]
    refine AnyF.ready (rs := [2]) (by kernel_rfl) (by simp) (ReadyF.call (some 21) 27 #[.tmp 20] #[9] rfl #[.string BS] (by simp [Act.eval]) en27 _ (HC1.out _) ?_ (fun c w' h => by cases h.1) (fun w' h => by cases h.1) ReadyF.nil)
    rintro v wq13x13 ⟨he, hb⟩
    cases he
    have Hq13x14 := Hq13x12.below hb
    clear hb
    refine ⟨Hq13x14, ?_⟩
    simp only [Act.put, List.setIfInBounds_toArray, List.set_cons_succ, List.set_cons_zero]
    refine AnyF.takeG (by rfl) 7 (some 26) (.binOp .eql 9 (.tmp 21) (.tmp 25) 9) none (.bool true) rfl (by kernel_rfl) (by kernel_rfl) (by kernel_rfl) (fun _ _ _ h => h) rfl (fun o h => by obtain rfl := Option.some.inj h; rfl) (fun o ho w2 hw => exec_eq9_same (.tmp 21) (.tmp 25) ho kL3 rfl rfl w2) Hq13x14 ?_
    simp only [Act.put, List.setIfInBounds_toArray, List.set_cons_succ, List.set_cons_zero]
    refine AnyF.takeG (by rfl) 8 (some 27) (.move (.tmp 26)) none (.bool true) rfl (by kernel_rfl) (by kernel_rfl) (by kernel_rfl) (fun _ _ _ h => h) rfl (fun o h => by obtain rfl := Option.some.inj h; rfl) (fun o ho w2 hw => exec_move (.tmp 26) ho _ rfl w2) Hq13x14 ?_
    simp only [Act.put, List.setIfInBounds_toArray, List.set_cons_succ, List.set_cons_zero]
    refine AnyF.takeG (by rfl) 9 (some 28) (.load 26 (.tmp 6)) (some (8, true)) (.agg PP12) rfl (by kernel_rfl) (by kernel_rfl) (by kernel_rfl) (fun _ _ _ h => h) rfl (fun o h => by obtain rfl := Option.some.inj h; rfl) (fun o ho w2 hw => exec_load_of _ 26 (.tmp 6) ho ⟨gq7s0, 0, none⟩ rfl _ (loadT26 IPP12 (hw.get (gq7s0) PP12 26 (by simp)))) Hq13x14 ?_
    simp only [Act.put, List.setIfInBounds_toArray, List.set_cons_succ, List.set_cons_zero]
    refine AnyF.ready (rs := [10]) (by kernel_rfl) (by simp) (ReadyF.callG (some 29) 13 #[.tmp 28] #[26] (some (8, true)) rfl (fun o h => by obtain rfl := Option.some.inj h; rfl) #[.agg PP12] (by simp [Act.eval]) en13 _ (HC14.out _ (HG.out.below Hq13x14.1)) ?_ (fun c w' h => by cases h.1) (fun w' h => by cases h.1) ReadyF.nil)
    rintro v wq13x15 ⟨he, hb⟩
    cases he
    have Hq13x16 := Hq13x14.below hb
    clear hb
    refine ⟨Hq13x16, ?_⟩
    simp only [Act.put, List.setIfInBounds_toArray, List.set_cons_succ, List.set_cons_zero]
    refine AnyF.takeG (by rfl) 11 (some 30) (.pick (.tmp 27) (.tmp 29) (.const (.bool false))) none (.bool true) rfl (by kernel_rfl) (by kernel_rfl) (by kernel_rfl) (fun _ _ _ h => h) rfl (fun o h => by obtain rfl := Option.some.inj h; rfl) (fun o ho w2 hw => exec_pickt (.tmp 27) (.tmp 29) (.const (.bool false)) ho rfl _ rfl w2) Hq13x16 ?_
    simp only [Act.put, List.setIfInBounds_toArray, List.set_cons_succ, List.set_cons_zero]
    refine AnyF.takeG (by rfl) 12 (some 31) (.move (.tmp 30)) none (.bool true) rfl (by kernel_rfl) (by kernel_rfl) (by kernel_rfl) (fun _ _ _ h => h) rfl (fun o h => by obtain rfl := Option.some.inj h; rfl) (fun o ho w2 hw => exec_move (.tmp 30) ho _ rfl w2) Hq13x16 ?_
    simp only [Act.put, List.setIfInBounds_toArray, List.set_cons_succ, List.set_cons_zero]
    refine AnyF.ready (rs := [13]) (by kernel_rfl) (by simp) (ReadyF.callG (some 32) 10 #[] #[] (some (12, true)) rfl (fun o h => by obtain rfl := Option.some.inj h; rfl) #[] (by simp [Act.eval]) en10 _ (HC15.out _ (HG.out.below Hq13x16.1)) ?_ (fun c w' h => by cases h.1) (fun w' h => by cases h.1) ReadyF.nil)
    rintro v wq13x17 ⟨he, hb⟩
    cases he
    have Hq13x18 := Hq13x16.below hb
    clear hb
    refine ⟨Hq13x18, ?_⟩
    simp only [Act.put, List.setIfInBounds_toArray, List.set_cons_succ, List.set_cons_zero]
    refine AnyF.takeG (by rfl) 14 (some 33) (.pick (.tmp 31) (.tmp 32) (.const (.bool false))) none (.bool true) rfl (by kernel_rfl) (by kernel_rfl) (by kernel_rfl) (fun _ _ _ h => h) rfl (fun o h => by obtain rfl := Option.some.inj h; rfl) (fun o ho w2 hw => exec_pickt (.tmp 31) (.tmp 32) (.const (.bool false)) ho rfl _ rfl w2) Hq13x18 ?_
    simp only [Act.put, List.setIfInBounds_toArray, List.set_cons_succ, List.set_cons_zero]
    refine AnyF.takeG (by rfl) 15 (some 2) (.assign (.tmp 33)) none (.bool true) rfl (by kernel_rfl) (by kernel_rfl) (by kernel_rfl) (fun _ _ _ h => h) rfl (fun o h => by obtain rfl := Option.some.inj h; rfl) (fun o ho w2 hw => exec_assign (.tmp 33) ho _ rfl w2) Hq13x18 ?_
    simp only [Act.put, List.setIfInBounds_toArray, List.set_cons_succ, List.set_cons_zero]
    refine AnyF.done (by kernel_rfl) ?_ _
    refine nrm_intro ⟨rfl, Hq13x18.sub (fun p hp => by simp at hp; rcases hp with rfl | rfl <;> simp)⟩
  rintro a' w14 ⟨rfl, hk⟩
  have HS15 := Lib.hid hk
  clear hk HS9
  go_wp2
  go_ret
  exact ⟨rfl, HS15.out.1⟩
theorem known_any (n : Nat) (Wn : n < 256) (w : World) (hG : Glob w) : Calls Tryd.prog 8 #[.int .u8 (n : Int)] w fun e w' => e = .returned (.bool true) ∧ Below w.heap.size w w' := by
  rcases (show n % 4 = 0 ∨ n % 4 = 1 ∨ n % 4 = 2 ∨ n % 4 = 3 by omega) with h | h | h | h
  · exact known_any_0 n Wn h w hG
  · exact known_any_1 n Wn h w hG
  · exact known_any_2 n Wn h w hG
  · exact known_any_3 n Wn h w hG
end Go.Proofs.YtgbliacncahooaaDoor
