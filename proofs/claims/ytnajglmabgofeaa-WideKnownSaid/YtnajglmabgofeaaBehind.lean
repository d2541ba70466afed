/- What the numbers are behind the blocks of a text: behind of package wide. No condition but that the numbers have 64 bits, and the text has whole blocks, at most a thousand. -/
import Derived.Test.YtnajglmabgofeaaSteps
namespace Go.Proofs.Ytnajglmabgofeaa
open Go.RowKit
set_option linter.unusedVariables false
theorem chunk_bytes (S : ByteArray) (j : Nat) : (S.extract (128 * j) (128 * j + 128)).data.toList = chunk S.data.toList j := by
  unfold chunk
  rw [ByteArray.data_extract, Array.toList_extract, List.extract_eq_take_drop, Nat.add_sub_cancel_left]
theorem enters_block : ∀ args w, (callFunc 26 args).run Try.prog w = .ok (.enter 26 args) w := enters_of Try.func26 (by kernel_rfl) rfl
/-- What holds in the region until its store. -/
def BS (B gk : Nat) (s : St) (w0 w : World) : Prop := w.heap[B]? = some (.cells (cells s).toArray 32 (0, 0)) ∧ w.heap[B + 1]? = some (.cells (cells s0).toArray 32 (0, 0)) ∧ Below B w0 w ∧ (∀ j, j < 80 → w.cell? ⟨gk, j, none⟩ = some (.int .u64 (kN j))) ∧ gk < B
theorem BS.below {B gk : Nat} {s : St} {w0 a b : World} (h : BS B gk s w0 a) (hb : Below a.heap.size a b) : BS B gk s w0 b := by
  have h1 := lt_of_block h.1
  have h2 := lt_of_block h.2.1
  exact ⟨by rw [hb.block B h1]; exact h.1, by rw [hb.block (B + 1) h2]; exact h.2.1, h.2.2.1.trans (hb.mono (Nat.le_of_lt h1)), fun j hj => (hb.cell (p := ⟨gk, j, none⟩) (Nat.lt_trans h.2.2.2.2 h1)).trans (h.2.2.2.1 j hj), h.2.2.2.2⟩
theorem BS.drew {B gk : Nat} {s : St} {w0 a : World} (h : BS B gk s w0 a) : BS B gk s w0 a.drew := ⟨h.1, h.2.1, h.2.2.1.drew, h.2.2.2.1, h.2.2.2.2⟩
theorem BS.seg {B gk : Nat} {s : St} {w0 a : World} (h : BS B gk s w0 a) : ∀ j v, (cells s)[j]? = some v → a.cell? ⟨B, 0 + j, none⟩ = some v := by
  intro j v hv
  rw [cell_of_row _ _ _ _ _ _ h.1, Nat.zero_add, List.getElem?_toArray, hv]
theorem BS.put {B gk : Nat} {s t : St} {w0 a : World} (h : BS B gk s w0 a) : BS B gk t w0 (a.setRow B (cells t).toArray) := by
  refine ⟨setRow_heap _ _ _ _ _ _ h.1, ?_, h.2.2.1.trans ⟨rfl, rfl, rfl, by simp, fun k hk => setRow_other _ _ _ _ (by omega)⟩, fun j hj => ?_, h.2.2.2.2⟩
  · rw [setRow_other _ _ _ _ (by omega)]; exact h.2.1
  · have e : (a.setRow B (cells t).toArray).heap[gk]? = a.heap[gk]? := setRow_other _ _ _ _ (by have := h.2.2.2.2; omega)
    rw [World.cell?_of_block (a := ⟨gk, j, none⟩) e]
    exact h.2.2.2.1 j hj
set_option maxRecDepth 100000 in
set_option maxHeartbeats 4000000 in
theorem behind_any (s : St) (hs : s.ok) (S : ByteArray) (NB : Nat) (hS : S.size = 128 * NB) (hNB : NB ≤ 1000) (gk ck : Nat) (hck : 80 ≤ ck) (w : World) (hgk : gk < w.heap.size) (hk : Hid (∀ j, j < 80 → w.cell? ⟨gk, j, none⟩ = some (.int .u64 (kN j)))) :
    Calls Try.prog 14 #[.agg (cells s).toArray, .string S, .slice (some ⟨gk, 0, none⟩) 80 ck] w fun e w' => e = .returned (.agg (cells (mids s S.data.toList NB)).toArray) ∧ Below w.heap.size w w' := by
  have HS := Lib.hid hs
  have hSs : S.size ≤ 128000 := by omega
  have HSZ := Lib.hid hS
  clear hs hS
  obtain ⟨B, hB⟩ : ∃ B, Hid (B = w.heap.size) := ⟨_, Lib.hid rfl⟩
  go_enter Try.func14, Try.ntmps14
  go_wp2_with (refine wpList_run rfl _ (exec_alloc_agg _ 32 rfl _ (zero32 _)) ?_)
  have hstart : BS B gk s w ((w.alloc (.cells (cells s).toArray 32)).alloc (.cells (cells s0).toArray 32)) := by
    unfold BS
    rw [hB.out]
    exact ⟨heap_alloc2_old w _ _, heap_alloc2_new w _ _, ((Below.refl _ w).alloc (Nat.le_refl _) _).alloc (by simp) _, fun j hj => by
      have hb : Below w.heap.size w ((w.alloc (.cells (cells s).toArray 32)).alloc (.cells (cells s0).toArray 32)) := ((Below.refl _ w).alloc (Nat.le_refl _) _).alloc (by simp) _
      exact (hb.cell (p := ⟨gk, j, none⟩) hgk).trans (hk.out j hj), hgk⟩
  have HST := Lib.hid hstart
  clear hstart
  rw [← hB.out]
  go_loopw [7] (fun v wr => ∃ a j : Nat, j ≤ NB ∧ v = .int .i64 a ∧ Hid (a = 128 * j) ∧ BS B gk (mids s S.data.toList j) w wr) (fun v _ => S.size - (intOf v).toNat)
  case atStart => exact ⟨0, 0, Nat.zero_le _, rfl, Lib.hid rfl, HST.out⟩
  case round =>
    clear HST
    obtain ⟨a, j, hj, rfl, ha, hbs⟩ := hrel
    have HBS := Lib.hid hbs
    clear hbs
    obtain ⟨sj, hsj⟩ : ∃ sj, Hid (sj = mids s S.data.toList j) := ⟨_, Lib.hid rfl⟩
    rw [← hsj.out] at HBS
    have hsok : Hid sj.ok := by unfold Hid; rw [hsj.out]; exact mids_ok HS.out _ _
    by_cases hlt : j < NB
    · have haS : a + 128 ≤ S.size := by rw [ha.out, HSZ.out]; omega
      have haI : (a : Int) + 128 ≤ (S.size : Int) := by omega
      have hbz : (S.extract a (a + 128)).size = 128 := by rw [extract_size _ _ _ haS]; omega
      have hcd : Hid (comp sj (S.extract a (a + 128)).data.toList = mids s S.data.toList (j + 1)) := by
        unfold Hid
        rw [ha.out, chunk_bytes, hsj.out]
        rfl
      obtain ⟨X, hX⟩ : ∃ X, Hid (X = S.extract a (a + 128)) := ⟨_, Lib.hid rfl⟩
      rw [← hX.out] at hbz hcd
      have HC : Hid (∀ W, BS B gk sj w W → Calls Try.prog 26 #[.agg (cells sj).toArray, .string X, .slice (some ⟨gk, 0, none⟩) 80 ck] W fun e w' => e = .returned (.agg (cells (comp sj X.data.toList)).toArray) ∧ Below W.heap.size W w') := fun W hW =>
        block_any sj hsok.out X hbz gk ck hck W (Nat.lt_trans hW.2.2.2.2 (lt_of_block hW.1)) (Lib.hid hW.2.2.2.1)
      rw [hcd.out] at HC
      obtain ⟨sn, hsn⟩ : ∃ sn, Hid (sn = mids s S.data.toList (j + 1)) := ⟨_, Lib.hid rfl⟩
      rw [← hsn.out] at HC
      have HD := Lib.hid HBS.out.drew
      have hcz : ∀ t : St, (Try.prog.info? 32).map (·.size) = some (cells t).length := cells_size
      clear hcd hbz
      go_upto_region 4 with (fail)
      refine wp_region_any (by kernel_rfl) ?_
      change wpAny _ _ _ _ _ _ _ (World.drew _)
      refine any_of_F (S := fun x => BS B gk sj w x) (f := 8) _ _ _ _ ?_
      refine AnyF.take 1 (some 16) (.move (.tmp 1)) (.string S) rfl (by kernel_rfl) (by kernel_rfl) (by kernel_rfl) (fun _ _ _ h => h) rfl (by kernel_rfl) (fun o ho w hw => exec_move (.tmp 1) ho _ rfl w) HD.out ?_
      simp only [Act.put, List.setIfInBounds_toArray, List.set_cons_succ, List.set_cons_zero]
      refine AnyF.take 2 (some 17) (.move (.tmp 7)) (.int .i64 a) rfl (by kernel_rfl) (by kernel_rfl) (by kernel_rfl) (fun _ _ _ h => h) rfl (by kernel_rfl) (fun o ho w hw => exec_move (.tmp 7) ho _ rfl w) HD.out ?_
      simp only [Act.put, List.setIfInBounds_toArray, List.set_cons_succ, List.set_cons_zero]
      refine AnyF.take 3 (some 18) (.move (.tmp 7)) (.int .i64 a) rfl (by kernel_rfl) (by kernel_rfl) (by kernel_rfl) (fun _ _ _ h => h) rfl (by kernel_rfl) (fun o ho w hw => exec_move (.tmp 7) ho _ rfl w) HD.out ?_
      simp only [Act.put, List.setIfInBounds_toArray, List.set_cons_succ, List.set_cons_zero]
      refine AnyF.take 4 (some 19) (.binOp .add 3 (.tmp 18) (.const (.int .i64 128)) 3) (.int .i64 ((a + 128 : Nat) : Int)) rfl (by kernel_rfl) (by kernel_rfl) (by kernel_rfl) (fun _ _ _ h => h) rfl (by kernel_rfl) (fun o ho w hw => exec_add_n (.tmp 18) 128 (by omega) ho rfl a (by omega) rfl w) HD.out ?_
      simp only [Act.put, List.setIfInBounds_toArray, List.set_cons_succ, List.set_cons_zero]
      refine AnyF.take 6 (some 21) (.move (.tmp 2)) (.slice (some ⟨gk, 0, none⟩) 80 ck) rfl (by kernel_rfl) (by kernel_rfl) (by kernel_rfl) (fun _ _ _ h => h) rfl (by kernel_rfl) (fun o ho w hw => exec_move (.tmp 2) ho _ rfl w) HD.out ?_
      simp only [Act.put, List.setIfInBounds_toArray, List.set_cons_succ, List.set_cons_zero]
      refine AnyF.take 5 (some 20) (.slice 9 (.tmp 16) (some (.tmp 17)) (some (.tmp 19)) none) (.string (S.extract a (a + 128))) rfl (by kernel_rfl) (by kernel_rfl) (by kernel_rfl) (fun _ _ _ h => h) rfl (by kernel_rfl) (fun o ho w hw => exec_slice_str (.tmp 16) (.tmp 17) (.tmp 19) ho S a (a + 128) (by omega) haS rfl rfl rfl w) HD.out ?_
      simp only [Act.put, List.setIfInBounds_toArray, List.set_cons_succ, List.set_cons_zero]
      rw [← hX.out]
      refine AnyF.take 0 (some 15) (.load 32 (.tmp 3)) (.agg (cells sj).toArray) rfl (by kernel_rfl) (by kernel_rfl) (by kernel_rfl) (fun _ _ _ h => h) rfl (by kernel_rfl) (fun o ho w hw => exec_load_seg _ 32 (.tmp 3) ho B 0 rfl (cells sj) _ hw.seg Try.underlying32 rfl (cells_size _)) HD.out ?_
      simp only [Act.put, List.setIfInBounds_toArray, List.set_cons_succ, List.set_cons_zero]
      refine AnyF.ready (rs := [7]) (by kernel_rfl) (by simp) (ReadyF.call (some 22) 26 #[.tmp 15, .tmp 20, .tmp 21] #[32, 9, 25] rfl #[.agg (cells sj).toArray, .string X, .slice (some ⟨gk, 0, none⟩) 80 ck] (by simp [Act.eval]) enters_block _ (HC.out _ HD.out) ?_ (fun c w' h => by cases h.1) (fun w' h => by cases h.1) ReadyF.nil)
      rintro v w2 ⟨he, hb⟩
      cases he
      have HS2 := Lib.hid (HD.out.below hb)
      refine ⟨HS2.out, ?_⟩
      clear hb
      simp only [Act.put, List.setIfInBounds_toArray, List.set_cons_succ, List.set_cons_zero]
      refine AnyF.ready (rs := [8]) (by kernel_rfl) (by simp) (ReadyF.last (.store 32 (.tmp 3) (.tmp 22)) rfl (fun o ho => exec_store_seg w2 32 (.tmp 3) (.tmp 22) ho B 0 rfl (cells sn) rfl (cells sj).toArray 32 HS2.out.1 (by show 0 + 8 ≤ 8; omega) (cells_one _) (cells_size _)) ?_ ReadyF.nil)
      refine any_doneF (by kernel_rfl) ?_ _
      rw [splice_all _ _ (by rfl)]
      have HS3 := Lib.hid (HS2.out.put (t := sn))
      clear HS2 HD HBS HC
      have HFA : Hid (a + 128 = 128 * (j + 1)) := by unfold Hid; rw [ha.out]; omega
      rw [hsn.out] at HS3
      rw [hsn.out]
      go_wp2
      go_roundw
      case rel => exact ⟨a + 128, j + 1, by omega, by go_num, HFA, HS3.out⟩
      case measure => simp [intOf]; omega
    · obtain rfl : j = NB := by omega
      have haS : S.size < a + 128 := by rw [ha.out, HSZ.out]; omega
      have haI : ¬ (a : Int) + 128 ≤ (S.size : Int) := by omega
      have ha2 : a ≤ 128000 := by rw [ha.out]; omega
      have hseg := Lib.hid HBS.out.seg
      have hrow := Lib.hid HBS.out.2.1

      obtain ⟨cf, hcf⟩ : ∃ cf, Hid (cf = cells sj) := ⟨_, Lib.hid rfl⟩
      rw [← hcf.out] at hseg
      have hsz : Hid ((Try.prog.info? 32).map (·.size) = some cf.length) := by unfold Hid; rw [hcf.out]; exact cells_size _
      have hone : Hid (∀ v ∈ cf, v.oneCell' = true) := by unfold Hid; rw [hcf.out]; exact cells_one _
      have hfit : Hid (0 + cf.length ≤ (cells s0).toArray.size) := by unfold Hid; rw [hcf.out]; show 0 + 8 ≤ 8; omega
      have hsz8 : Hid ((cells s0).toArray.size = cf.length) := by unfold Hid; rw [hcf.out]; rfl
      go_wp2_with (first | (refine wpList_load_seg rfl 32 (.tmp 3) rfl B 0 rfl cf _ hseg.out Try.underlying32 rfl hsz.out ?_) | (refine wpList_store_seg rfl 32 (.tmp 6) (.tmp 23) rfl (B + 1) 0 rfl cf rfl _ 32 hrow.out hfit.out hone.out hsz.out ?_))
      have hsp : splice (cells s0).toArray 0 cf = cf.toArray := splice_all _ _ hsz8.out
      rw [hsp]
      have hld : (loadVar 32 ⟨B + 1, 0, none⟩).run Try.prog (wr.setRow (B + 1) cf.toArray) = .ok (.agg cf.toArray) (wr.setRow (B + 1) cf.toArray) := by
        refine run_loadVar_seg _ 32 (B + 1) 0 cf _ (fun j v hv => ?_) Try.underlying32 rfl hsz.out
        rw [cell_of_row _ (B + 1) (0 + j) cf.toArray 32 (0, 0) (setRow_heap _ _ _ _ _ _ hrow.out), Nat.zero_add, List.getElem?_toArray, hv]
      have hbel : Below w.heap.size w (wr.setRow (B + 1) cf.toArray) := by
        have h := HBS.out.2.2.1
        rw [hB.out] at h
        exact h.trans ⟨rfl, rfl, rfl, by simp, fun k hk => setRow_other _ _ _ _ (by rw [hB.out]; omega)⟩
      generalize wr.setRow (B + 1) cf.toArray = W2 at *
      exact bodyPost_ret (v := .agg cf.toArray) (results_cell rfl _ _ _ ⟨B + 1, 0, none⟩ rfl _ hld) rfl ⟨by rw [hcf.out, hsj.out], hbel⟩
end Go.Proofs.Ytnajglmabgofeaa
