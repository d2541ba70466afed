/- Several texts, one behind the other; each says by itself what it proves, and on what conditions. -/
import Derived.Test.YtdajmekliodmcaaGreatDoorK15
import Derived.Laws.CopyRow
namespace Go.Proofs.YtdajmekliodmcaaGreatDoor.W4
set_option linter.unusedSimpArgs false
open Go.Proofs.YtdajmekliodmcaaGreatDoor.P8
open Go.RowKit
set_option linter.unusedVariables false
section
variable {ρ : Operand → Value} {o : Oper}
theorem exec_slice_arr (x : Operand) (ho : o.op = .slice 121 x none none none) (g : Nat) (hx : ρ x = .pointer (some ⟨g, 0, none⟩)) (w : World) : (execOp ρ o).run Tryz.prog w = .ok (.value (.slice (some ⟨g, 0, none⟩) 8 8)) w := by
  have hu := Tryz.underlying121
  unfold execOp
  simp only [ho, hx, Option.map]
  go_simp
theorem exec_len_str (x : Operand) (ho : o.op = .call { callee := .builtin .len, args := #[x], argTypes := #[9] }) (S : ByteArray) (hS : S.size ≤ 1000000) (hx : ρ x = .string S) (w : World) : (execOp ρ o).run Tryz.prog w = .ok (.value (.int .i64 (S.size : Int))) w := by
  have hu := Tryz.underlying9
  unfold execOp
  simp only [ho, resolve, invoke, builtin]
  go_simp
theorem exec_cat (x y : Operand) (ho : o.op = .binOp .add 9 x y 9) (S T : ByteArray) (hS : S.size ≤ 1000000) (hT : T.size ≤ 1000000) (hx : ρ x = .string S) (hy : ρ y = .string T) (w : World) : (execOp ρ o).run Tryz.prog w = .ok (.value (.string (S ++ T))) w := by
  have hu := Tryz.underlying9
  have hst : S.size + T.size ≤ 9223372036854775807 := by omega
  unfold execOp
  simp only [ho, hx, hy]
  go_simp
theorem exec_conv (x : Operand) (ho : o.op = .convert 3 34 x) (n : Nat) (hn : n ≤ 1000000) (hx : ρ x = .int .i64 n) (w : World) : (execOp ρ o).run Tryz.prog w = .ok (.value (.int .u64 n)) w := by
  have hu := Tryz.underlying3
  have hu2 := Tryz.underlying34
  have hwi : IntKind.u64.wrap (n : Int) = (n : Int) := wrap_id (by omega)
  unfold execOp
  simp only [ho, hx]
  go_simp
theorem exec_copy8 (w : World) (d x : Operand) (ho : o.op = .call { callee := .builtin .copy, args := #[d, x], argTypes := #[92, 92] }) (g a c : Nat) (f : Nat → Nat) (z : St)
    (hd : ρ d = .slice (some ⟨g, 0, none⟩) 8 8) (hx : ρ x = .slice (some ⟨a, 0, none⟩) 8 c) (hg : w.heap[g]? = some (.cells (cells z).toArray 121 (0, 0))) (hs : ∀ j, j < 8 → w.cell? ⟨a, j, none⟩ = some (.int .u64 (f j))) :
    (execOp ρ o).run Tryz.prog w = .ok (.value (.int .i64 8)) (w.setRow g (rowOf .u64 8 f).toArray) := by
  have h := run_copy_row (P := Tryz.prog) w 92 92 o.type 34 g 0 8 8 ⟨a, 0, none⟩ 8 c (cells z).toArray 121 (rowOf .u64 8 f) Tryz.underlying92 (by kernel_rfl) hg (by rw [rowOf_length]; rfl)
    (fun j v hv => by
      rw [addr_add, Nat.zero_add]
      have hj : j < 8 := by
        rcases Nat.lt_or_ge j 8 with h | h
        · exact h
        · rw [List.getElem?_eq_none (by rw [rowOf_length]; exact h)] at hv; cases hv
      rw [rowOf_get _ _ _ _ hj] at hv
      rw [hs j hj, hv]) (by rw [rowOf_length]; show 0 + 8 ≤ 8; omega) (rowOf_one _ _ _)
  have e : ((cells z).toArray.toList.take 0 ++ rowOf .u64 8 f ++ (cells z).toArray.toList.drop (0 + (rowOf .u64 8 f).length)).toArray = (rowOf .u64 8 f).toArray := by
    rw [rowOf_length]
    simp [cells]
  rw [e, rowOf_length] at h
  unfold execOp
  simp [ho, resolve, invoke, builtin, hd, hx, h, goInt]
end
theorem chunk_left (a b : List UInt8) (p : Nat) (ha : a.length = 128 * p) (j : Nat) (hj : j < p) : chunk (a ++ b) j = chunk a j := by
  unfold chunk
  rw [List.drop_append_of_le_length (by omega), List.take_append_of_le_length (by rw [List.length_drop]; omega)]
theorem chunk_right (a b : List UInt8) (p : Nat) (ha : a.length = 128 * p) (j : Nat) : chunk (a ++ b) (p + j) = chunk b j := by
  unfold chunk
  rw [show 128 * (p + j) = a.length + 128 * j by omega, List.drop_append, List.drop_eq_nil_of_le (by omega), List.nil_append, Nat.add_sub_cancel_left]
theorem mids_left (s : St) (a b : List UInt8) (p : Nat) (ha : a.length = 128 * p) : ∀ k, k ≤ p → mids s (a ++ b) k = mids s a k
  | 0, _ => rfl
  | k + 1, hk => by
    show comp (mids s (a ++ b) k) (chunk (a ++ b) k) = comp (mids s a k) (chunk a k)
    rw [mids_left s a b p ha k (by omega), chunk_left a b p ha k (by omega)]
theorem mids_right (s : St) (a b : List UInt8) (p : Nat) (ha : a.length = 128 * p) : ∀ q, mids s (a ++ b) (p + q) = mids (mids s a p) b q
  | 0 => mids_left s a b p ha p (Nat.le_refl _)
  | q + 1 => by
    show comp (mids s (a ++ b) (p + q)) (chunk (a ++ b) (p + q)) = comp (mids (mids s a p) b q) (chunk b q)
    rw [mids_right s a b p ha q, chunk_right a b p ha q]
theorem sha_cut (l : List UInt8) : sha l = tell (mids (mids h0 (l.take (128 * (l.length / 128))) (l.length / 128)) (l.drop (128 * (l.length / 128)) ++ tailN l.length) ((l.drop (128 * (l.length / 128)) ++ tailN l.length).length / 128)) := by
  have hp : pad l = l.take (128 * (l.length / 128)) ++ (l.drop (128 * (l.length / 128)) ++ tailN l.length) := by
    unfold pad
    rw [← List.append_assoc, List.take_append_drop]
  have hl : (l.take (128 * (l.length / 128))).length = 128 * (l.length / 128) := by rw [List.length_take]; omega
  unfold sha
  have hn : (pad l).length / 128 = l.length / 128 + (l.drop (128 * (l.length / 128)) ++ tailN l.length).length / 128 := by
    rw [hp, List.length_append, hl]
    omega
  rw [hn, hp, mids_right _ _ _ _ hl]
def SB (B gk : Nat) (s : St) (w0 w : World) : Prop := w.heap[B]? = some (.cells (cells s).toArray 121 (0, 0)) ∧ Below w0.heap.size w0 w ∧ (∀ j, j < 80 → w.cell? ⟨gk, j, none⟩ = some (.int .u64 (kN j))) ∧ gk < B ∧ w0.heap.size ≤ B
theorem SB.below {B gk : Nat} {s : St} {w0 a b : World} (h : SB B gk s w0 a) (hb : Below a.heap.size a b) : SB B gk s w0 b := by
  have h1 := lt_of_block h.1
  exact ⟨by rw [hb.block B h1]; exact h.1, h.2.1.trans (hb.mono h.2.1.size), fun j hj => (hb.cell (p := ⟨gk, j, none⟩) (Nat.lt_trans h.2.2.2.1 h1)).trans (h.2.2.1 j hj), h.2.2.2⟩
theorem SB.drew {B gk : Nat} {s : St} {w0 a : World} (h : SB B gk s w0 a) : SB B gk s w0 a.drew := ⟨h.1, h.2.1.drew, h.2.2.1, h.2.2.2⟩
theorem SB.seg {B gk : Nat} {s : St} {w0 a : World} (h : SB B gk s w0 a) : ∀ j v, (cells s)[j]? = some v → a.cell? ⟨B, 0 + j, none⟩ = some v := by
  intro j v hv
  rw [cell_of_row _ _ _ _ _ _ h.1, Nat.zero_add, List.getElem?_toArray, hv]
theorem SB.put {B gk : Nat} {s t : St} {w0 a : World} (h : SB B gk s w0 a) : SB B gk t w0 (a.setRow B (cells t).toArray) := by
  refine ⟨setRow_heap _ _ _ _ _ _ h.1, h.2.1.trans ⟨rfl, rfl, rfl, by simp, fun k hk => setRow_other _ _ _ _ (by have := h.2.2.2.2; omega)⟩, fun j hj => ?_, h.2.2.2⟩
  have e : (a.setRow B (cells t).toArray).heap[gk]? = a.heap[gk]? := setRow_other _ _ _ _ (by have := h.2.2.2.1; omega)
  rw [World.cell?_of_block (a := ⟨gk, j, none⟩) e]
  exact h.2.2.1 j hj
theorem SB.gk {B gk : Nat} {s : St} {w0 a : World} (h : SB B gk s w0 a) : gk < a.heap.size := Nat.lt_trans h.2.2.2.1 (lt_of_block h.1)
theorem enters_roots : ∀ args w, (callFunc 112 args).run Tryz.prog w = .ok (.enter 112 args) w := enters_of Tryz.func112 (by kernel_rfl) rfl
theorem enters_behind : ∀ args w, (callFunc 114 args).run Tryz.prog w = .ok (.enter 114 args) w := enters_of Tryz.func114 (by kernel_rfl) rfl
theorem enters_tail : ∀ args w, (callFunc 115 args).run Tryz.prog w = .ok (.enter 115 args) w := enters_of Tryz.func115 (by kernel_rfl) rfl
set_option maxRecDepth 100000 in
set_option maxHeartbeats 4000000 in
theorem sum_any (S : ByteArray) (hS : S.size ≤ 100000) (w : World) :
    Calls Tryz.prog 62 #[.string S] w fun e w' => e = .returned (.string ⟨(sha S.data.toList).toArray⟩) ∧ Below w.heap.size w w' := by
  obtain ⟨OUT, hOUT⟩ : ∃ OUT : ByteArray, Hid (OUT = ⟨(sha S.data.toList).toArray⟩) := ⟨_, Lib.hid rfl⟩
  rw [← hOUT.out]
  obtain ⟨n, hn⟩ : ∃ n, S.size = n := ⟨_, rfl⟩
  have hn1 : n ≤ 100000 := by omega
  obtain ⟨q, hq⟩ : ∃ q, Hid (q = n / 128) := ⟨_, Lib.hid rfl⟩
  obtain ⟨wh, hwh⟩ : ∃ wh, Hid (wh = 128 * q) := ⟨_, Lib.hid rfl⟩
  have hwn : wh ≤ n := by rw [hwh.out, hq.out]; omega
  have hwI : (n : Int) - (n : Int) % 128 = (wh : Int) := by rw [hwh.out, hq.out]; omega
  have hwI2 : (n : Int) - Int.tmod (n : Int) 128 = (wh : Int) := by rw [Int.tmod_eq_emod_of_nonneg (by omega)]; exact hwI
  have hq1 : q ≤ 1000 := by rw [hq.out]; omega
  go_enter Tryz.func62, Tryz.ntmps62
  go_wp2_with fail
  refine (consts_any w).mono ?_
  rintro e w1 ⟨pk, ck, rfl, hown1, hb1⟩
  obtain ⟨gk, rfl⟩ := own_some hown1 (by omega)
  have hck := own_le hown1
  have hgk : gk < w1.heap.size := (hown1.lt gk rfl).2
  have hz1 := hb1.size
  have H1 : Hid (SB w1.heap.size gk s0 w (w1.alloc (.cells (cells s0).toArray 121))) := by
    unfold Hid SB
    refine ⟨heap_alloc_new _ _, hb1.alloc hb1.size _, fun j hj => ?_, hgk, hz1⟩
    have hbb : Below w1.heap.size w1 (w1.alloc (.cells (cells s0).toArray 121)) := (Below.refl _ w1).alloc (Nat.le_refl _) _
    rw [hbb.cell (p := ⟨gk, j, none⟩) hgk, hown1.cellAt j (by omega)]
    unfold numsV
    rw [List.getElem?_map, kL_at j hj]; rfl
  clear hown1 hb1
  go_upto_region 3 with (refine wpList_run rfl _ (exec_alloc_agg _ 121 rfl _ (zero32 _)) ?_)
  obtain ⟨B, hB⟩ : ∃ B, B = w1.heap.size := ⟨_, rfl⟩
  rw [← hB] at H1 ⊢
  obtain ⟨w2, hw2⟩ : ∃ w2, w2 = w1.alloc (.cells (cells s0).toArray 121) := ⟨_, rfl⟩
  rw [← hw2] at H1 ⊢
  clear hw2 hB hz1 hgk
  refine wp_region_any (by kernel_rfl) ?_
  change wpAny _ _ _ _ _ _ _ (World.drew _)
  refine any_of_F (S := fun _ => True) (f := 99) _ _ _ _ ?_
  refine AnyF.take0 0 99 (some 7) (.slice 121 (.tmp 4) none none none) (.slice (some ⟨B, 0, none⟩) 8 8) rfl (by kernel_rfl) (by kernel_rfl) (by kernel_rfl) (fun _ _ _ h => h) rfl rfl (fun o ho w => exec_slice_arr (.tmp 4) ho B rfl w) trivial ?_
  simp only [Act.put, sT, sS, sZ]
  have HR := Lib.hid (roots_square w2.drew)
  refine AnyF.ready (rs := [1]) (by kernel_rfl) (by simp) (ReadyF.call (some 8) 112 #[.const (.int .i64 8), .func 113] #[3, 123] rfl #[.int .i64 8, .func (.func 113) #[] #[]] (by simp [Act.eval]) enters_roots _ HR.out ?_ (fun c w' h => by obtain ⟨_, _, h1, _⟩ := h; cases h1) (fun w' h => by obtain ⟨_, _, h1, _⟩ := h; cases h1) ReadyF.nil)
  rintro v w3 ⟨p3, c3, he, ho3, hb3⟩
  cases he
  refine ⟨trivial, ?_⟩
  obtain ⟨g3, rfl⟩ := own_some ho3 (by omega)
  have H3 := Lib.hid ((SB.drew H1.out).below hb3)
  have hc3 : ∀ j, j < 8 → w3.cell? ⟨g3, j, none⟩ = some (.int .u64 (h0.at j)) := fun j hj => by
    rw [ho3.cellAt j (by omega), rowOf_get _ _ _ _ hj]
  simp only [Act.put, sT, sS, sZ]
  refine AnyF.ready (rs := [2]) (by kernel_rfl) (by simp) (ReadyF.op (some 9) (.call { callee := .builtin .copy, args := #[.tmp 7, .tmp 8], argTypes := #[92, 92] }) rfl (.int .i64 8) (fun o ho => exec_copy8 w3 (.tmp 7) (.tmp 8) ho B g3 c3 h0.at s0 rfl rfl H3.out.1 hc3) trivial ?_ ReadyF.nil)
  refine AnyF.done (by kernel_rfl) ?_ _
  simp only [Act.put, sT, sS, sZ]
  have H4 : Hid (SB B gk h0 w (w3.setRow B (rowOf .u64 8 h0.at).toArray)) := Lib.hid (SB.put (t := h0) H3.out)
  obtain ⟨w4, hw4⟩ : ∃ w4, w4 = w3.setRow B (rowOf .u64 8 h0.at).toArray := ⟨_, rfl⟩
  rw [← hw4] at H4 ⊢
  clear hw4 H3 hc3 ho3 hb3 HR H1
  go_upto_region 5 with (fail)
  obtain ⟨l, hl⟩ : ∃ l, Hid (l = S.data.toList) := ⟨_, Lib.hid rfl⟩
  have hll : Hid (l.length = n) := by unfold Hid; rw [hl.out]; exact hn
  obtain ⟨X1, hX1⟩ : ∃ X1, Hid (X1 = S.extract 0 wh) := ⟨_, Lib.hid rfl⟩
  have hX1s : X1.size = 128 * q := by rw [hX1.out, extract_size _ _ _ (by omega), hwh.out]; omega
  have hX1d : Hid (X1.data.toList = l.take wh) := by
    unfold Hid
    rw [hX1.out, ByteArray.data_extract, Array.toList_extract, List.extract_eq_take_drop, List.drop_zero, Nat.sub_zero, hl.out]
  obtain ⟨s1, hs1⟩ : ∃ s1, Hid (s1 = mids h0 X1.data.toList q) := ⟨_, Lib.hid rfl⟩
  have hs1ok : Hid s1.ok := by unfold Hid; rw [hs1.out]; exact mids_ok h0_ok _ _
  have HC1 : Hid (∀ W, SB B gk h0 w W → Calls Tryz.prog 114 #[.agg (cells h0).toArray, .string X1, .slice (some ⟨gk, 0, none⟩) 80 ck] W fun e w' => e = .returned (.agg (cells s1).toArray) ∧ Below W.heap.size W w') := fun W hW => by
    rw [hs1.out]
    exact behind_any h0 h0_ok X1 q hX1s hq1 gk ck hck W hW.gk (Lib.hid hW.2.2.1)
  have HD4 := Lib.hid H4.out.drew
  refine wp_region_any (by kernel_rfl) ?_
  change wpAny _ _ _ _ _ _ _ (World.drew _)
  refine any_of_F (S := fun x => SB B gk h0 w x) (f := 6) _ _ _ _ ?_
  refine AnyF.take 1 (some 17) (.move (.tmp 0)) (.string S) rfl (by kernel_rfl) (by kernel_rfl) (by kernel_rfl) (fun _ _ _ h => h) rfl (by kernel_rfl) (fun o ho w hw => exec_move (.tmp 0) ho _ rfl w) HD4.out ?_
  simp only [Act.put, sT, sS, sZ]
  refine AnyF.take 2 (some 18) (.move (.tmp 5)) (.int .i64 wh) rfl (by kernel_rfl) (by kernel_rfl) (by kernel_rfl) (fun _ _ _ h => h) rfl (by kernel_rfl) (fun o ho w hw => exec_move (.tmp 5) ho _ rfl w) HD4.out ?_
  simp only [Act.put, sT, sS, sZ]
  refine AnyF.take 4 (some 20) (.move (.tmp 3)) (.slice (some ⟨gk, 0, none⟩) 80 ck) rfl (by kernel_rfl) (by kernel_rfl) (by kernel_rfl) (fun _ _ _ h => h) rfl (by kernel_rfl) (fun o ho w hw => exec_move (.tmp 3) ho _ rfl w) HD4.out ?_
  simp only [Act.put, sT, sS, sZ]
  refine AnyF.take 3 (some 19) (.slice 9 (.tmp 17) none (some (.tmp 18)) none) (.string X1) rfl (by kernel_rfl) (by kernel_rfl) (by kernel_rfl) (fun _ _ _ h => h) rfl (by kernel_rfl) (fun o ho w hw => by rw [hX1.out]; exact exec_slice_to (.tmp 17) (.tmp 18) ho S wh (by omega) rfl rfl w) HD4.out ?_
  simp only [Act.put, sT, sS, sZ]
  refine AnyF.take 0 (some 16) (.load 121 (.tmp 4)) (.agg (cells h0).toArray) rfl (by kernel_rfl) (by kernel_rfl) (by kernel_rfl) (fun _ _ _ h => h) rfl (by kernel_rfl) (fun o ho w hw => exec_load_seg _ 121 (.tmp 4) ho B 0 rfl (cells h0) _ hw.seg Tryz.underlying121 rfl (cells_size _)) HD4.out ?_
  simp only [Act.put, sT, sS, sZ]
  refine AnyF.ready (rs := [5]) (by kernel_rfl) (by simp) (ReadyF.call (some 21) 114 #[.tmp 16, .tmp 19, .tmp 20] #[121, 9, 92] rfl #[.agg (cells h0).toArray, .string X1, .slice (some ⟨gk, 0, none⟩) 80 ck] (by simp [Act.eval]) enters_behind _ (HC1.out _ HD4.out) ?_ (fun c w' h => by cases h.1) (fun w' h => by cases h.1) ReadyF.nil)
  rintro v w5 ⟨he, hb⟩
  cases he
  have H5 := Lib.hid (HD4.out.below hb)
  refine ⟨H5.out, ?_⟩
  clear hb
  simp only [Act.put, sT, sS, sZ]
  refine AnyF.ready (rs := [6]) (by kernel_rfl) (by simp) (ReadyF.last (.store 121 (.tmp 4) (.tmp 21)) rfl (fun o ho => exec_store_seg w5 121 (.tmp 4) (.tmp 21) ho B 0 rfl (cells s1) rfl (cells h0).toArray 121 H5.out.1 (by show 0 + 8 ≤ 8; omega) (cells_one _) (cells_size _)) ?_ ReadyF.nil)
  refine any_doneF (by kernel_rfl) ?_ _
  rw [splice_all _ _ (by rfl)]
  have H6 := Lib.hid (H5.out.put (t := s1))
  obtain ⟨w6, hw6⟩ : ∃ w6, w6 = w5.setRow B (cells s1).toArray := ⟨_, rfl⟩
  rw [← hw6] at H6 ⊢
  clear hw6 H5 HD4 H4 HC1
  go_upto_region 6 with (fail)
  obtain ⟨X2, hX2⟩ : ∃ X2, Hid (X2 = S.extract wh S.size) := ⟨_, Lib.hid rfl⟩
  have hX2d : Hid (X2.data.toList = l.drop wh) := by
    unfold Hid
    rw [hX2.out, ByteArray.data_extract, Array.toList_extract, List.extract_eq_take_drop, hl.out]
    exact List.take_of_length_le (by rw [List.length_drop]; exact Nat.le_refl _)
  obtain ⟨TL, hTL⟩ : ∃ TL : ByteArray, Hid (TL = ⟨(tailN n).toArray⟩) := ⟨_, Lib.hid rfl⟩
  have hTLs : TL.size = 17 + fill n := by
    rw [hTL.out]
    show (tailN n).toArray.size = _
    rw [List.size_toArray]
    unfold tailN
    simp only [List.length_cons, List.length_append, List.length_replicate]
    have h8 : ∀ n, (be8 n).length = 8 := fun n => rfl
    rw [h8, h8]
    omega
  have hfl := fill_lt n
  have hX2s : X2.size = n - wh := by rw [hX2.out, extract_size _ _ _ (Nat.le_refl _)]; omega
  obtain ⟨Y, hY⟩ : ∃ Y : ByteArray, Hid (Y = X2 ++ TL) := ⟨_, Lib.hid rfl⟩
  obtain ⟨m, hm⟩ : ∃ m, Hid (m = (l.drop wh ++ tailN n).length / 128) := ⟨_, Lib.hid rfl⟩
  have hYd : Hid (Y.data.toList = l.drop wh ++ tailN n) := by unfold Hid; rw [hY.out, data_append, hX2d.out, hTL.out]
  have hYs : Y.size = 128 * m := by
    have h1 : Y.size = n - wh + (17 + fill n) := by rw [hY.out, ByteArray.size_append, hX2s, hTLs]
    have h2 : (l.drop wh ++ tailN n).length = Y.size := by rw [← hYd.out]; rfl
    have h3 := fill_end n
    rw [hm.out, h2, h1, hwh.out, hq.out]
    omega
  have hYz : Y.size = n - wh + (17 + fill n) := by rw [hY.out, ByteArray.size_append, hX2s, hTLs]
  have hnw : n - wh ≤ 127 := by rw [hwh.out, hq.out]; omega
  have hm1 : m ≤ 1000 := by omega
  obtain ⟨s2, hs2⟩ : ∃ s2, Hid (s2 = mids s1 Y.data.toList m) := ⟨_, Lib.hid rfl⟩
  have hs2ok : Hid s2.ok := by unfold Hid; rw [hs2.out]; exact mids_ok hs1ok.out _ _
  have HCT : Hid (∀ W : World, Calls Tryz.prog 115 #[.int .u64 n] W fun e w' => e = .returned (.string TL) ∧ Below W.heap.size W w') := fun W => by
    rw [hTL.out]; exact tail_any n (by omega) W
  have HC2 : Hid (∀ W, SB B gk s1 w W → Calls Tryz.prog 114 #[.agg (cells s1).toArray, .string Y, .slice (some ⟨gk, 0, none⟩) 80 ck] W fun e w' => e = .returned (.agg (cells s2).toArray) ∧ Below W.heap.size W w') := fun W hW => by
    rw [hs2.out]
    exact behind_any s1 hs1ok.out Y m hYs hm1 gk ck hck W hW.gk (Lib.hid hW.2.2.1)
  have HD6 := Lib.hid H6.out.drew
  refine wp_region_any (by kernel_rfl) ?_
  change wpAny _ _ _ _ _ _ _ (World.drew _)
  refine any_of_F (S := fun x => SB B gk s1 w x) (f := 11) _ _ _ _ ?_
  refine AnyF.take 1 (some 23) (.move (.tmp 0)) (.string S) rfl (by kernel_rfl) (by kernel_rfl) (by kernel_rfl) (fun _ _ _ h => h) rfl (by kernel_rfl) (fun o ho w hw => exec_move (.tmp 0) ho _ rfl w) HD6.out ?_
  simp only [Act.put, sT, sS, sZ]
  refine AnyF.take 2 (some 24) (.move (.tmp 5)) (.int .i64 wh) rfl (by kernel_rfl) (by kernel_rfl) (by kernel_rfl) (fun _ _ _ h => h) rfl (by kernel_rfl) (fun o ho w hw => exec_move (.tmp 5) ho _ rfl w) HD6.out ?_
  simp only [Act.put, sT, sS, sZ]
  refine AnyF.take 4 (some 26) (.move (.tmp 0)) (.string S) rfl (by kernel_rfl) (by kernel_rfl) (by kernel_rfl) (fun _ _ _ h => h) rfl (by kernel_rfl) (fun o ho w hw => exec_move (.tmp 0) ho _ rfl w) HD6.out ?_
  simp only [Act.put, sT, sS, sZ]
  refine AnyF.take 9 (some 31) (.move (.tmp 3)) (.slice (some ⟨gk, 0, none⟩) 80 ck) rfl (by kernel_rfl) (by kernel_rfl) (by kernel_rfl) (fun _ _ _ h => h) rfl (by kernel_rfl) (fun o ho w hw => exec_move (.tmp 3) ho _ rfl w) HD6.out ?_
  simp only [Act.put, sT, sS, sZ]
  refine AnyF.take 3 (some 25) (.slice 9 (.tmp 23) (some (.tmp 24)) none none) (.string X2) rfl (by kernel_rfl) (by kernel_rfl) (by kernel_rfl) (fun _ _ _ h => h) rfl (by kernel_rfl) (fun o ho w hw => by rw [hX2.out]; exact exec_slice_from (.tmp 23) (.tmp 24) ho S wh (by omega) rfl rfl w) HD6.out ?_
  simp only [Act.put, sT, sS, sZ]
  refine AnyF.take 5 (some 27) (.call { callee := .builtin .len, args := #[.tmp 26], argTypes := #[9] }) (.int .i64 n) rfl (by kernel_rfl) (by kernel_rfl) (by kernel_rfl) (fun _ _ _ h => h) rfl (by kernel_rfl) (fun o ho w hw => by rw [← hn]; exact exec_len_str (.tmp 26) ho S (by omega) rfl w) HD6.out ?_
  simp only [Act.put, sT, sS, sZ]
  refine AnyF.take 6 (some 28) (.convert 3 34 (.tmp 27)) (.int .u64 n) rfl (by kernel_rfl) (by kernel_rfl) (by kernel_rfl) (fun _ _ _ h => h) rfl (by kernel_rfl) (fun o ho w hw => exec_conv (.tmp 27) ho n (by omega) rfl w) HD6.out ?_
  simp only [Act.put, sT, sS, sZ]
  refine AnyF.take 0 (some 22) (.load 121 (.tmp 4)) (.agg (cells s1).toArray) rfl (by kernel_rfl) (by kernel_rfl) (by kernel_rfl) (fun _ _ _ h => h) rfl (by kernel_rfl) (fun o ho w hw => exec_load_seg _ 121 (.tmp 4) ho B 0 rfl (cells s1) _ hw.seg Tryz.underlying121 rfl (cells_size _)) HD6.out ?_
  simp only [Act.put, sT, sS, sZ]
  refine AnyF.ready (rs := [7]) (by kernel_rfl) (by simp) (ReadyF.call (some 29) 115 #[.tmp 28] #[34] rfl #[.int .u64 n] (by simp [Act.eval]) enters_tail _ (HCT.out _) ?_ (fun c w' h => by cases h.1) (fun w' h => by cases h.1) ReadyF.nil)
  rintro v w7 ⟨he, hb⟩
  cases he
  have H7 := Lib.hid (HD6.out.below hb)
  refine ⟨H7.out, ?_⟩
  clear hb
  simp only [Act.put, sT, sS, sZ]
  refine AnyF.take 8 (some 30) (.binOp .add 9 (.tmp 25) (.tmp 29) 9) (.string Y) rfl (by kernel_rfl) (by kernel_rfl) (by kernel_rfl) (fun _ _ _ h => h) rfl (by kernel_rfl) (fun o ho w hw => by rw [hY.out]; exact exec_cat (.tmp 25) (.tmp 29) ho X2 TL (by omega) (by omega) rfl rfl w) H7.out ?_
  simp only [Act.put, sT, sS, sZ]
  refine AnyF.ready (rs := [10]) (by kernel_rfl) (by simp) (ReadyF.call (some 32) 114 #[.tmp 22, .tmp 30, .tmp 31] #[121, 9, 92] rfl #[.agg (cells s1).toArray, .string Y, .slice (some ⟨gk, 0, none⟩) 80 ck] (by simp [Act.eval]) enters_behind _ (HC2.out _ H7.out) ?_ (fun c w' h => by cases h.1) (fun w' h => by cases h.1) ReadyF.nil)
  rintro v w8 ⟨he, hb⟩
  cases he
  have H8 := Lib.hid (H7.out.below hb)
  refine ⟨H8.out, ?_⟩
  clear hb
  simp only [Act.put, sT, sS, sZ]
  refine AnyF.ready (rs := [11]) (by kernel_rfl) (by simp) (ReadyF.last (.store 121 (.tmp 4) (.tmp 32)) rfl (fun o ho => exec_store_seg w8 121 (.tmp 4) (.tmp 32) ho B 0 rfl (cells s2) rfl (cells s1).toArray 121 H8.out.1 (by show 0 + 8 ≤ 8; omega) (cells_one _) (cells_size _)) ?_ ReadyF.nil)
  refine any_doneF (by kernel_rfl) ?_ _
  rw [splice_all _ _ (by rfl)]
  have H9 := Lib.hid (H8.out.put (t := s2))
  obtain ⟨w9, hw9⟩ : ∃ w9, w9 = w8.setRow B (cells s2).toArray := ⟨_, rfl⟩
  rw [← hw9] at H9 ⊢
  clear hw9 H8 H7 HD6 H6 HC2 HCT
  have hfin : Hid (OUT = ⟨(tellTo s2.at 8).toArray⟩) := by
    unfold Hid
    rw [hOUT.out, tell_to, hs2.out, hYd.out, hs1.out, hX1d.out, hm.out, ← hl.out, sha_cut l, hll.out, ← hq.out, ← hwh.out]
  have HT := Lib.hid (told_any s2.at w9)
  rw [← cells_row, ← hfin.out] at HT
  obtain ⟨cf, hcf⟩ : ∃ cf, Hid (cf = cells s2) := ⟨_, Lib.hid rfl⟩
  have hseg := Lib.hid H9.out.seg
  rw [← hcf.out] at hseg HT
  have hsz : Hid ((Tryz.prog.info? 121).map (·.size) = some cf.length) := by unfold Hid; rw [hcf.out]; exact cells_size _
  have HB9 := Lib.hid H9.out.2.1
  clear hcf H9
  go_wp2_with (refine wpList_load_seg rfl 121 (.tmp 4) rfl B 0 rfl cf _ hseg.out Tryz.underlying121 rfl hsz.out ?_)
  refine HT.out.mono ?_
  rintro e w10 ⟨rfl, hb10⟩
  have HB10 := Lib.hid (HB9.out.trans (hb10.mono HB9.out.size))
  clear hb10 HT hseg HB9
  go_wp2
  go_ret
  exact ⟨rfl, HB10.out⟩
end Go.Proofs.YtdajmekliodmcaaGreatDoor.W4
namespace Go.Proofs.YtdajmekliodmcaaGreatDoor.P8
open Go.RowKit Go.Shelf
set_option linter.unusedVariables false
set_option linter.unusedSimpArgs false
theorem Kn.ext {w0 w : World} {l m : List (Nat × Array Value)} (h : Kn w0 l w) (g : Nat) (f f' : Nat → Nat) (hf : ∀ j, j < 4 → f j = f' j) (hm : ∀ p ∈ m, p ∈ l ∨ (p = (g, (rowOf .u64 4 f').toArray) ∧ (g, (rowOf .u64 4 f).toArray) ∈ l)) : Kn w0 m w :=
  ⟨h.1, fun p hp => by
    rcases hm p hp with h1 | ⟨rfl, h2⟩
    · exact h.2 p h1
    · rw [show (rowOf .u64 4 f').toArray = (rowOf .u64 4 f).toArray by rw [rowOf_ext hf]]
      exact h.2 _ h2⟩
theorem Kn.row {w0 w : World} {l : List (Nat × Array Value)} (h : Kn w0 l w) (g : Nat) (f : Nat → Nat) (hm : (g, (rowOf .u64 4 f).toArray) ∈ l) : Row w g 36 .u64 4 f := h.2 _ hm
theorem exec_notb {ρ : Operand → Value} {o : Oper} (x : Operand) (ho : o.op = .unOp .not 4 x) (b c : Bool) (hx : ρ x = .bool b) (hc : c = !b) (w : World) :
    (execOp ρ o).run Tryz.prog w = .ok (.value (.bool c)) w := by
  subst hc
  unfold execOp
  rw [ho]
  simp only [hx]
  go_simp
def v32 : Nat → (Nat → Nat) → Nat
  | 0, _ => 0
  | n + 1, f => v32 n f + f n * 4294967296 ^ n
theorem v32_succ (n : Nat) (f : Nat → Nat) : v32 (n + 1) f = v32 n f + f n * 4294967296 ^ n := rfl
theorem v32_ext {f g : Nat → Nat} : ∀ n, (∀ j, j < n → f j = g j) → v32 n f = v32 n g
  | 0, _ => rfl
  | n + 1, h => by rw [v32_succ, v32_succ, v32_ext n (fun j hj => h j (by omega)), h n (by omega)]
theorem v32_zero (f : Nat → Nat) : ∀ n, (∀ j, j < n → f j = 0) → v32 n f = 0
  | 0, _ => rfl
  | n + 1, h => by rw [v32_succ, v32_zero f n (fun j hj => h j (by omega)), h n (by omega), Nat.zero_mul]
theorem v32_upd (f : Nat → Nat) (k v : Nat) : ∀ n, k < n → v32 n (upd f k v) + f k * 4294967296 ^ k = v32 n f + v * 4294967296 ^ k
  | 0, h => by omega
  | n + 1, h => by
    rw [v32_succ, v32_succ]
    by_cases e : k = n
    · subst e
      have h1 : v32 k (upd f k v) = v32 k f := v32_ext k (fun j hj => by unfold upd; rw [if_neg (by omega)])
      have h2 : upd f k v k = v := by unfold upd; rw [if_pos rfl]
      rw [h1, h2]
      omega
    · have h1 := v32_upd f k v n (by omega)
      have h2 : upd f k v n = f n := by unfold upd; rw [if_neg (by omega)]
      rw [h2]
      omega
theorem mul_step (x y c o P : Nat) (h : c + o + x * y = P) (W : Nat) (V V' B X : Nat) (hV : V + c * W = B + X) (hU : V' + o * W = V + P % 4294967296 * W) : V' + P / 4294967296 * (W * 4294967296) = B + (X + x * y * W) := by
  have h1 : P * W = P % 4294967296 * W + P / 4294967296 * (W * 4294967296) := by
    rw [Nat.mul_comm W, ← Nat.mul_assoc, ← Nat.add_mul, Nat.mul_comm (P / 4294967296), Nat.mod_add_div]
  have h2 : P * W = c * W + o * W + x * y * W := by rw [← h, Nat.add_mul, Nat.add_mul]
  omega
theorem mul_small (x y c o : Nat) (hx : x < 4294967296) (hy : y < 4294967296) (hc : c < 4294967296) (ho : o < 4294967296) : c + o + x * y < 18446744073709551616 := by
  have h : x * y ≤ 4294967295 * 4294967295 := Nat.mul_le_mul (by omega) (by omega)
  omega
def MulO (x y : Nat → Nat) (i : Nat) (o : Nat → Nat) : Prop := (∀ j, j < 16 → o j < 4294967296) ∧ (∀ j, i + 8 ≤ j → o j = 0) ∧ v32 16 o = v32 i x * v32 8 y
def MulI (x y : Nat → Nat) (i q c : Nat) (o : Nat → Nat) : Prop := (∀ j, j < 16 → o j < 4294967296) ∧ (∀ j, i + 8 ≤ j → o j = 0) ∧ c < 4294967296 ∧ v32 16 o + c * 4294967296 ^ (i + q) = v32 i x * v32 8 y + x i * 4294967296 ^ i * v32 q y
theorem MulO.start (x y : Nat → Nat) : MulO x y 0 (fun _ => 0) := ⟨fun _ _ => (by show 0 < 4294967296; omega), fun _ _ => rfl, by rw [v32_zero _ 16 (fun _ _ => rfl)]; show 0 = 0 * _; rw [Nat.zero_mul]⟩
theorem MulI.room {x y : Nat → Nat} {i q c : Nat} {o : Nat → Nat} (h : MulI x y i q c o) (hi : i < 8) (hq : q < 8) (hx : x i < 4294967296) (hy : y q < 4294967296) : c + o (i + q) + x i * y q < 18446744073709551616 := mul_small _ _ _ _ hx hy h.2.2.1 (h.1 _ (by omega))
theorem MulI.step {x y : Nat → Nat} {i q c : Nat} {o : Nat → Nat} (h : MulI x y i q c o) (hi : i < 8) (hq : q < 8) (hx : x i < 4294967296) (hy : y q < 4294967296) (P : Nat) (hP : P = c + o (i + q) + x i * y q) :
    MulI x y i (q + 1) (P / 4294967296) (upd o (i + q) (P % 4294967296)) := by
  have hr := h.room hi hq hx hy
  rw [← hP] at hr
  refine ⟨fun j hj => ?_, fun j hj => ?_, by omega, ?_⟩
  · unfold upd; split
    · omega
    · exact h.1 j hj
  · unfold upd
    rw [if_neg (by omega)]
    exact h.2.1 j hj
  · have hu := v32_upd o (i + q) (P % 4294967296) 16 (by omega)
    have hs := mul_step (x i) (y q) c (o (i + q)) P hP.symm (4294967296 ^ (i + q)) (v32 16 o) (v32 16 (upd o (i + q) (P % 4294967296))) (v32 i x * v32 8 y) (x i * 4294967296 ^ i * v32 q y) h.2.2.2 hu
    rw [← Nat.add_assoc i q 1, Nat.pow_succ, hs, v32_succ q y, Nat.mul_add (x i * 4294967296 ^ i), Nat.pow_add, Nat.mul_mul_mul_comm]
theorem MulI.outer {x y : Nat → Nat} {i c : Nat} {o : Nat → Nat} (h : MulI x y i 8 c o) (hi : i < 8) : MulO x y (i + 1) (upd o (i + 8) c) := by
  refine ⟨fun j hj => ?_, fun j hj => ?_, ?_⟩
  · unfold upd; split
    · exact h.2.2.1
    · exact h.1 j hj
  · unfold upd
    rw [if_neg (by omega)]
    exact h.2.1 j (by omega)
  · have hu := v32_upd o (i + 8) c 16 (by omega)
    rw [h.2.1 (i + 8) (Nat.le_refl _), Nat.zero_mul, Nat.add_zero, h.2.2.2] at hu
    rw [hu, v32_succ i x, Nat.add_mul]
def FoldI (l : Nat → Nat) (i c : Nat) (o : Nat → Nat) : Prop := (∀ j, j < 8 → o j < 4294967296) ∧ (∀ j, i ≤ j → o j = 0) ∧ c ≤ 39 ∧ v32 8 o + c * 4294967296 ^ i = v32 i l + 38 * v32 i (fun j => l (8 + j))
theorem FoldI.start (l : Nat → Nat) : FoldI l 0 0 (fun _ => 0) := ⟨fun _ _ => (by show 0 < 4294967296; omega), fun _ _ => rfl, by decide, by rw [v32_zero _ 8 (fun _ _ => rfl)]; rfl⟩
theorem FoldI.step {l : Nat → Nat} {i c : Nat} {o : Nat → Nat} (h : FoldI l i c o) (hi : i < 8) (hl : ∀ j, j < 16 → l j < 4294967296) (P : Nat) (hP : P = c + l i + 38 * l (8 + i)) : FoldI l (i + 1) (P / 4294967296) (upd o i (P % 4294967296)) := by
  have h1 := hl i (by omega)
  have h2 := hl (8 + i) (by omega)
  have h3 := h.2.2.1
  refine ⟨fun j hj => ?_, fun j hj => ?_, by omega, ?_⟩
  · unfold upd; split
    · omega
    · exact h.1 j hj
  · unfold upd
    rw [if_neg (by omega)]
    exact h.2.1 j (by omega)
  · have hu := v32_upd o i (P % 4294967296) 8 hi
    rw [h.2.1 i (Nat.le_refl _), Nat.zero_mul, Nat.add_zero] at hu
    have e := h.2.2.2
    rw [v32_succ i l, v32_succ i (fun j => l (8 + j)), Nat.pow_succ, hu]
    have h5 : P * 4294967296 ^ i = P % 4294967296 * 4294967296 ^ i + P / 4294967296 * (4294967296 ^ i * 4294967296) := by
      rw [Nat.mul_comm (4294967296 ^ i), ← Nat.mul_assoc, ← Nat.add_mul, Nat.mul_comm (P / 4294967296), Nat.mod_add_div]
    have h6 : P * 4294967296 ^ i = c * 4294967296 ^ i + l i * 4294967296 ^ i + 38 * (l (8 + i) * 4294967296 ^ i) := by rw [hP, Nat.add_mul, Nat.add_mul, Nat.mul_assoc]
    rw [Nat.mul_add]
    omega
def FoldJ (N i m : Nat) (o : Nat → Nat) : Prop := (∀ j, j < 8 → o j < 4294967296) ∧ m < 4294967296 ∧ v32 8 o + m * 4294967296 ^ i = N
theorem FoldJ.step {N i m : Nat} {o : Nat → Nat} (h : FoldJ N i m o) (hi : i < 8) (P : Nat) (hP : P = m + o i) : FoldJ N (i + 1) (P / 4294967296) (upd o i (P % 4294967296)) := by
  have h1 := h.1 i hi
  have h2 := h.2.1
  refine ⟨fun j hj => ?_, by omega, ?_⟩
  · unfold upd; split
    · omega
    · exact h.1 j hj
  · have hu := v32_upd o i (P % 4294967296) 8 hi
    have e := h.2.2
    rw [Nat.pow_succ]
    have h5 : P * 4294967296 ^ i = P % 4294967296 * 4294967296 ^ i + P / 4294967296 * (4294967296 ^ i * 4294967296) := by
      rw [Nat.mul_comm (4294967296 ^ i), ← Nat.mul_assoc, ← Nat.add_mul, Nat.mul_comm (P / 4294967296), Nat.mod_add_div]
    have h6 : P * 4294967296 ^ i = m * 4294967296 ^ i + o i * 4294967296 ^ i := by rw [hP, Nat.add_mul]
    omega
theorem FoldJ.done {N i m : Nat} {o : Nat → Nat} (h : FoldJ N i m o) (hi : i ≤ 8) (he : i = 8 ∨ m = 0) : v32 8 o + m * 115792089237316195423570985008687907853269984665640564039457584007913129639936 = N := by
  have e := h.2.2
  rcases he with rfl | rfl
  · rwa [show (4294967296 : Nat) ^ 8 = 115792089237316195423570985008687907853269984665640564039457584007913129639936 from rfl] at e
  · rw [Nat.zero_mul] at e ⊢
    exact e
def IsRw (n : Nat) (A : Array Value) : Prop := ∃ f : Nat → Nat, A = (rowOf .u64 n f).toArray
section
variable {P : Program} {ops : Array Oper} {Q : Exit → Act → World → Prop} {md : Region.Mode} {S : World → Prop} {f n : Nat} {listed : Array Bool} {a : Act} {w w2 : World} {rs : List Nat}
theorem ReadyF.op0 {i : Nat} (opr : Op) (ho : (ops[i]?).map (fun o => (o.dst, o.op, o.guard)) = some (none, opr, none))
    (hrun : ∀ o : Oper, o.op = opr → (execOp a.eval o).run P w = .ok .skip w2) (hS : S w2) (h : AnyF P md ops Q S f n (listed.setIfInBounds i true) a w2)
    (hs : ReadyF P md ops Q S f n listed a w rs) (hif : i ≠ f := by decide) : ReadyF P md ops Q S f n listed a w (i :: rs) := by
  cases hq : ops[i]? with
  | none => simp [hq] at ho
  | some o =>
    simp [hq] at ho
    obtain ⟨hd, rfl, hg⟩ := ho
    refine ReadyF.cons hq hg (fun K hK => ?_) hs
    unfold Oper.wp
    rw [hrun o rfl]
    have : a.put o.dst undef = a := by rw [hd]; rfl
    have h2 : K a w2 := hK _ _ ⟨fun _ => ⟨hS, h⟩, fun e => absurd e hif⟩
    rw [← this] at h2
    exact h2
end
def Kt (w0 : World) (l : List (Nat × Array Value × TypeId)) (w : World) : Prop := Below w0.heap.size w0 w ∧ ∀ p ∈ l, w.heap[p.1]? = some (.cells p.2.1 p.2.2 (0, 0))
theorem Kt.get {w0 w : World} {l : List (Nat × Array Value × TypeId)} (h : Kt w0 l w) (g : Nat) (A : Array Value) (t : TypeId) (hm : (g, A, t) ∈ l) : w.heap[g]? = some (.cells A t (0, 0)) := h.2 (g, A, t) hm
theorem Kt.lt {w0 w : World} {l : List (Nat × Array Value × TypeId)} (h : Kt w0 l w) (g : Nat) (A : Array Value) (t : TypeId) (hm : (g, A, t) ∈ l) : g < w.heap.size := (Array.getElem?_eq_some_iff.1 (h.get g A t hm)).1
theorem Kt.below {w0 w w2 : World} {l : List (Nat × Array Value × TypeId)} (h : Kt w0 l w) (hb : Below w.heap.size w w2) : Kt w0 l w2 :=
  ⟨h.1.trans (hb.mono h.1.size), fun p hp => (hb.block p.1 (Array.getElem?_eq_some_iff.1 (h.2 p hp)).1).trans (h.2 p hp)⟩
theorem Kt.drew {w0 w : World} {l : List (Nat × Array Value × TypeId)} (h : Kt w0 l w) : Kt w0 l w.drew := ⟨h.1.drew, h.2⟩
theorem Kt.alloc {w0 w : World} {l : List (Nat × Array Value × TypeId)} (h : Kt w0 l w) (o : Obj) : Kt w0 l (w.alloc o) := h.below ((Below.refl _ w).alloc (Nat.le_refl _) o)
theorem Kt.new {w0 w : World} {l : List (Nat × Array Value × TypeId)} (h : Kt w0 l w) (A : Array Value) (t : TypeId) : Kt w0 ((w.heap.size, A, t) :: l) (w.alloc (.cells A t)) :=
  ⟨(h.alloc _).1, fun p hp => by
    rcases List.mem_cons.1 hp with rfl | hp
    · exact heap_alloc_new w _
    · exact (h.alloc _).2 p hp⟩
theorem Kt.nil (w : World) : Kt w [] w := ⟨Below.refl _ _, fun p hp => by cases hp⟩
theorem Kt.sub {w0 w : World} {l m : List (Nat × Array Value × TypeId)} (h : Kt w0 l w) (hs : ∀ p ∈ m, p ∈ l) : Kt w0 m w := ⟨h.1, fun p hp => h.2 p (hs p hp)⟩
theorem Kt.add {w0 w : World} {l : List (Nat × Array Value × TypeId)} (h : Kt w0 l w) (g : Nat) (A : Array Value) (t : TypeId) (hg : w.heap[g]? = some (.cells A t (0, 0))) : Kt w0 ((g, A, t) :: l) w :=
  ⟨h.1, fun p hp => by
    rcases List.mem_cons.1 hp with rfl | hp
    · exact hg
    · exact h.2 p hp⟩
theorem Kt.app {w0 w : World} {l m : List (Nat × Array Value × TypeId)} (h : Kt w0 l w) (h2 : Kt w0 m w) : Kt w0 (l ++ m) w := ⟨h.1, fun p hp => (List.mem_append.1 hp).elim (h.2 p) (h2.2 p)⟩
theorem Kt.set {w0 w : World} {l m : List (Nat × Array Value × TypeId)} (h : Kt w0 l w) (g : Nat) (A B : Array Value) (t : TypeId) (hg : w.heap[g]? = some (.cells B t (0, 0))) (hw : w0.heap.size ≤ g) (hm : ∀ p ∈ m, p = (g, A, t) ∨ (p ∈ l ∧ p.1 ≠ g)) : Kt w0 m (w.setRow g A) :=
  ⟨h.1.trans ⟨rfl, rfl, rfl, by simp, fun k hk => setRow_other _ _ _ _ (by omega)⟩, fun p hp => by
    rcases hm p hp with rfl | ⟨h1, h2⟩
    · exact setRow_heap _ _ _ _ _ _ hg
    · exact (setRow_other _ _ _ _ h2).trans (h.2 p h1)⟩
theorem Kt.setw {w0 w : World} {l m : List (Nat × Array Value × TypeId)} (h : Kt w0 l w) (g : Nat) (t : TypeId) (kd : IntKind) (n : Nat) (f : Nat → Nat) (j v : Nat) (hg : Row w g t kd n f) (hw : w0.heap.size ≤ g) (hm : ∀ p ∈ m, p = (g, (rowOf kd n (upd f j v)).toArray, t) ∨ (p ∈ l ∧ p.1 ≠ g)) : Kt w0 m (w.setCell ⟨g, j, none⟩ (.int kd (v : Int))) :=
  ⟨h.1.setCell (p := ⟨g, j, none⟩) hw _, fun p hp => by
    rcases hm p hp with rfl | ⟨h1, h2⟩
    · exact hg.set j v
    · exact (heap_setCell_other _ _ _ _ h2).trans (h.2 p h1)⟩
theorem Kt.row {w0 w : World} {l : List (Nat × Array Value × TypeId)} (h : Kt w0 l w) (g : Nat) (t : TypeId) (kd : IntKind) (n : Nat) (f : Nat → Nat) (hm : (g, (rowOf kd n f).toArray, t) ∈ l) : Row w g t kd n f := h.2 _ hm
theorem Kt.cell {w0 w : World} {l : List (Nat × Array Value × TypeId)} (h : Kt w0 l w) (g : Nat) (A : Array Value) (t : TypeId) (hm : (g, A, t) ∈ l) (j : Nat) : w.cell? ⟨g, j, none⟩ = A[j]? := cell_of_row w g j A t (0, 0) (h.get g A t hm)
theorem Kt.free {w0 w : World} {l : List (Nat × Array Value × TypeId)} (h : Kt w0 l w) (g : Nat) (A : Array Value) (t : TypeId) (hm : (g, A, t) ∈ l) (j : Nat) : w.frozen? ⟨g, j, none⟩ = false := by
  unfold World.frozen?
  simp only [h.get g A t hm]
  simp
theorem Kt.ext {w0 w : World} {l m : List (Nat × Array Value × TypeId)} (h : Kt w0 l w) (g : Nat) (t : TypeId) (kd : IntKind) (n : Nat) (f f' : Nat → Nat) (hf : ∀ j, j < n → f j = f' j) (hm : ∀ p ∈ m, p ∈ l ∨ (p = (g, (rowOf kd n f').toArray, t) ∧ (g, (rowOf kd n f).toArray, t) ∈ l)) : Kt w0 m w :=
  ⟨h.1, fun p hp => by
    rcases hm p hp with h1 | ⟨rfl, h2⟩
    · exact h.2 p h1
    · rw [show (rowOf kd n f').toArray = (rowOf kd n f).toArray by rw [rowOf_ext hf]]
      exact h.2 _ h2⟩
end Go.Proofs.YtdajmekliodmcaaGreatDoor.P8
