/- What the numbers are behind one block more: block of package wide. No condition but that the numbers have 64 bits, and the block 128 bytes. -/
import Derived.Test.YtnajglmabgofeaaBlockA
namespace Go.Proofs.Ytnajglmabgofeaa
open Go.RowKit
set_option linter.unusedVariables false
theorem cells_len (s : St) : (cells s).length = 8 := rfl
set_option maxRecDepth 100000 in
set_option maxHeartbeats 4000000 in
theorem block_any (s : St) (hs : s.ok) (blk : ByteArray) (hb : blk.size = 128) (gk ck : Nat) (hck : 80 ≤ ck) (w : World) (hgk : gk < w.heap.size) (hk : Hid (∀ j, j < 80 → w.cell? ⟨gk, j, none⟩ = some (.int .u64 (kN j)))) :
    Calls Try.prog 26 #[.agg (cells s).toArray, .string blk, .slice (some ⟨gk, 0, none⟩) 80 ck] w fun e w' => e = .returned (.agg (cells (comp s blk.data.toList)).toArray) ∧ Below w.heap.size w w' := by
  have HS := Lib.hid hs
  have HW := Lib.hid (words_any blk hb)
  obtain ⟨l, hl⟩ : ∃ l, Hid (l = blk.data.toList) := ⟨_, Lib.hid rfl⟩
  clear hs hb
  rw [← hl.out] at HW ⊢
  obtain ⟨cs, hcs⟩ : ∃ cs, Hid (cs = rowOf .u64 80 (W l)) := ⟨_, Lib.hid rfl⟩
  rw [← hcs.out] at HW
  have hsz : Hid ((Try.prog.info? 63).map (·.size) = some cs.length) := by unfold Hid; rw [hcs.out]; exact size63 _
  have hone : Hid (∀ v ∈ cs, v.oneCell' = true) := by unfold Hid; rw [hcs.out]; exact rowOf_one _ _ _
  have hlen : Hid ((rowOf .u64 80 (fun _ => 0)).toArray.size = cs.length) := by unfold Hid; rw [hcs.out, rowOf_length, rowOf_size]
  go_enter Try.func26, Try.ntmps26
  go_wp2_with (refine wpList_run rfl _ (exec_alloc_agg _ 32 rfl _ (zero32 _)) ?_)
  refine (HW.out _).mono ?_
  rintro e w1 ⟨rfl, hb1⟩
  have HB1 := Lib.hid hb1
  clear hb1
  go_wp2_with (first | (refine wpList_run rfl _ (exec_alloc_agg _ 63 rfl _ (zero63 _)) ?_) | (refine wpList_run0 rfl (exec_store_new w1 63 (.tmp 7) (.tmp 22) rfl _ 63 rfl cs rfl hlen.out hone.out hsz.out) ?_))
  have HR0 : Hid ((w1.alloc (.cells cs.toArray 63)).heap[w.heap.size]? = some (.cells (cells s).toArray 32 (0, 0))) := by
    unfold Hid
    rw [Below.heap_alloc _ _ _ (by have := HB1.out.size; simp at this; omega), HB1.out.block _ (by rw [World.size_alloc, World.size_alloc]; omega)]
    exact heap_alloc2_old w _ _
  have HR1 : Hid ((w1.alloc (.cells cs.toArray 63)).heap[w.heap.size + 1]? = some (.cells (cells s0).toArray 32 (0, 0))) := by
    unfold Hid
    rw [Below.heap_alloc _ _ _ (by have := HB1.out.size; simp at this; omega), HB1.out.block _ (by rw [World.size_alloc, World.size_alloc]; omega)]
    exact heap_alloc2_new w _ _
  have HRW : Hid (Row (w1.alloc (.cells cs.toArray 63)) w1.heap.size 63 .u64 80 (W l)) := by unfold Hid; rw [hcs.out]; exact Row.new w1 63 .u64 80 (W l)
  have HBl : Hid (Below w.heap.size w (w1.alloc (.cells cs.toArray 63))) := by
    unfold Hid
    have h1 : Below w.heap.size w w1 := (((Below.refl _ w).alloc (Nat.le_refl _) _).alloc (by simp) _).trans (HB1.out.mono (by simp; omega))
    exact h1.alloc h1.size _
  have hgw : w.heap.size + 1 < w1.heap.size := by have := HB1.out.size; simp at this; omega
  obtain ⟨g5, hg5⟩ : ∃ g5, g5 = w1.heap.size := ⟨_, rfl⟩
  rw [← hg5] at HRW hgw ⊢
  obtain ⟨W5, hW5⟩ : ∃ W5, W5 = w1.alloc (.cells cs.toArray 63) := ⟨_, rfl⟩
  rw [← hW5] at HR0 HR1 HRW HBl ⊢
  clear hW5 hg5 HB1 hlen hone hsz HW hcs
  clear w1
  have c0 : W5.cell? ⟨w.heap.size, 0, none⟩ = some (.int .u64 s.a) := by rw [cell_of_row _ _ _ _ _ _ HR0.out]; rfl
  have c1 : W5.cell? ⟨w.heap.size, 1, none⟩ = some (.int .u64 s.b) := by rw [cell_of_row _ _ _ _ _ _ HR0.out]; rfl
  have c2 : W5.cell? ⟨w.heap.size, 2, none⟩ = some (.int .u64 s.c) := by rw [cell_of_row _ _ _ _ _ _ HR0.out]; rfl
  have c3 : W5.cell? ⟨w.heap.size, 3, none⟩ = some (.int .u64 s.d) := by rw [cell_of_row _ _ _ _ _ _ HR0.out]; rfl
  have c4 : W5.cell? ⟨w.heap.size, 4, none⟩ = some (.int .u64 s.e) := by rw [cell_of_row _ _ _ _ _ _ HR0.out]; rfl
  have c5 : W5.cell? ⟨w.heap.size, 5, none⟩ = some (.int .u64 s.f) := by rw [cell_of_row _ _ _ _ _ _ HR0.out]; rfl
  have c6 : W5.cell? ⟨w.heap.size, 6, none⟩ = some (.int .u64 s.g) := by rw [cell_of_row _ _ _ _ _ _ HR0.out]; rfl
  have c7 : W5.cell? ⟨w.heap.size, 7, none⟩ = some (.int .u64 s.h) := by rw [cell_of_row _ _ _ _ _ _ HR0.out]; rfl
  go_quiet (fail)
  clear c0 c1 c2 c3 c4 c5 c6 c7
  go_wp2
  have hz : Hid (∀ j, j < 80 → W5.cell? ⟨gk, j, none⟩ = some (.int .u64 (kN j))) := fun j hj => (HBl.out.cell (p := ⟨gk, j, none⟩) hgk).trans (hk.out j hj)
  refine loop1_ok s l g5 gk ck _ W5 _ _ _ _ _ _ _ _ _ _ _ _ _ _ _ _ _ _ _ _ _ _ _ _ _ _ _ _ _ _ _ _ _ _ _ _ _ _ _ _ _ _ _ _ _ _ _ _ _ _ _ _ _ _ _ _ _ _ _ _ _ _ _ _ _ _ _ _ _ _ _ _ _ _ _ _ _ _ _ _ _ _ _ _ _ _ _ _ _ _ _ _ _ _ _ _ _ _ _ _ _ _ _ _ _ _ _ _ _ _ _ _ _ _ HS hck hz HRW ?_
  rintro a16 a17 a18 a40 a41 a42 a43 a44 a45 a46 a47 a48 a49 a50 a51 a52 a53 a54 a55 a56 a57 a58 a59 a60 a61 a62 a63 a64 a65 a66 a67 a68 a69 a70 a71 a72 a73 a74 a75 a76 a77 a78 a79 a80 a81 a82 a83 a84 a85 a86 a87 a88 a89 a90 a91 a92 a93 a94 a95 a96 a97 a98 a99 a100 a101 a102 t m ht
  obtain ⟨wr, hwr⟩ : ∃ wr, wr = W5.drewN m := ⟨_, rfl⟩
  rw [← hwr]
  have HFin : Hid (plus s t = comp s l) := by unfold Hid; rw [ht.out]; rfl
  have HGw : Hid (Below w.heap.size w wr) := by unfold Hid; rw [hwr]; exact Below.drewN' HBl.out m
  have HRr : Hid (wr.heap[w.heap.size + 1]? = some (.cells (cells s0).toArray 32 (0, 0))) := by unfold Hid; rw [hwr]; exact HR1.out
  have HRs : Hid (Row wr w.heap.size 32 .u64 8 (PTo s t 0)) := by unfold Hid; rw [hwr]; exact HR0.out
  clear hwr HR0 HR1 HRW HBl ht
  go_wp2
  refine loop2_ok s t w.heap.size w wr _ _ _ _ _ _ _ _ _ _ _ _ _ _ _ _ _ _ _ _ _ _ _ _ _ _ _ _ _ _ _ _ _ _ _ _ _ _ _ _ _ _ _ _ _ _ _ _ _ _ _ _ _ _ _ _ _ _ _ _ _ _ _ _ _ _ _ _ _ _ _ _ _ _ _ _ _ _ _ _ _ _ _ _ _ _ _ _ _ _ _ _ _ _ _ _ _ _ _ _ _ _ _ _ _ _ _ _ _ _ _ _ _ _ _ _ _ _ _ _ _ _ HRr.out HRs.out HGw.out ?_
  clear HRr HRs HGw
  rintro b19 b20 b113 b114 b115 b116 b117 b118 b119 b120 b121 b122 wr ⟨hRr, hRs, hBw⟩
  have HRr := Lib.hid hRr
  have HRs := Lib.hid hRs
  have HBw := Lib.hid hBw
  clear hRr hRs hBw
  obtain ⟨cf, hcf⟩ : ∃ cf, Hid (cf = cells (comp s l)) := ⟨_, Lib.hid rfl⟩
  have HRc : Hid (wr.heap[w.heap.size]? = some (.cells cf.toArray 32 (0, 0))) := by unfold Hid; rw [hcf.out, ← HFin.out, ← PTo_all]; exact HRs.out
  have hseg : Hid (∀ j v, cf[j]? = some v → wr.cell? ⟨w.heap.size, 0 + j, none⟩ = some v) := by
    intro j v hv
    rw [cell_of_row _ _ _ _ _ _ HRc.out, Nat.zero_add, List.getElem?_toArray, hv]
  have hsz : Hid ((Try.prog.info? 32).map (·.size) = some cf.length) := by unfold Hid; rw [hcf.out]; exact cells_size _
  have hone : Hid (∀ v ∈ cf, v.oneCell' = true) := by unfold Hid; rw [hcf.out]; exact cells_one _
  have hfit : Hid (0 + cf.length ≤ (cells s0).toArray.size) := by unfold Hid; rw [hcf.out, cells_len, List.size_toArray, cells_len]; exact Nat.le_refl _
  have hsz8 : Hid ((cells s0).toArray.size = cf.length) := by unfold Hid; rw [hcf.out, cells_len, List.size_toArray, cells_len]
  clear HRs
  go_wp2_with (first | (refine wpList_load_seg rfl 32 (.tmp 3) rfl w.heap.size 0 rfl cf _ hseg.out Try.underlying32 rfl hsz.out ?_) | (refine wpList_store_seg rfl 32 (.tmp 6) (.tmp 123) rfl (w.heap.size + 1) 0 rfl cf rfl _ 32 HRr.out hfit.out hone.out hsz.out ?_))
  have hsp : splice (cells s0).toArray 0 cf = cf.toArray := splice_all _ _ hsz8.out
  rw [hsp]
  have hld : (loadVar 32 ⟨w.heap.size + 1, 0, none⟩).run Try.prog (wr.setRow (w.heap.size + 1) cf.toArray) = .ok (.agg cf.toArray) (wr.setRow (w.heap.size + 1) cf.toArray) := by
    refine run_loadVar_seg _ 32 (w.heap.size + 1) 0 cf _ (fun j v hv => ?_) Try.underlying32 rfl hsz.out
    rw [cell_of_row _ (w.heap.size + 1) (0 + j) cf.toArray 32 (0, 0) (setRow_heap _ _ _ _ _ _ HRr.out), Nat.zero_add, List.getElem?_toArray, hv]
  have hbel : Below w.heap.size w (wr.setRow (w.heap.size + 1) cf.toArray) := by
    exact HBw.out.trans ⟨rfl, rfl, rfl, by simp, fun k hk => setRow_other _ _ _ _ (by omega)⟩
  generalize wr.setRow (w.heap.size + 1) cf.toArray = W2 at *
  exact bodyPost_ret (v := .agg cf.toArray) (results_cell rfl _ _ _ ⟨w.heap.size + 1, 0, none⟩ rfl _ hld) rfl ⟨by rw [hcf.out], hbel⟩
end Go.Proofs.Ytnajglmabgofeaa
