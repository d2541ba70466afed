/- What the numbers are behind one block more: behind of package sha. No condition but that the numbers have 32 bits, and the block 64 bytes; the table of the package stands in memory. -/
import Derived.Test.YtjkbbndiickcnaaDoorBehindB
namespace Go.Proofs.YtjkbbndiickcnaaDoor
open Go.RowKit
set_option linter.unusedVariables false
theorem cells_len (s : St) : (cells s).length = 8 := rfl
set_option maxRecDepth 100000 in
set_option maxHeartbeats 4000000 in
theorem behind_any (s : St) (hs : s.ok) (blk : ByteArray) (hb : blk.size = 64) (w : World) (hG : Glob w) :
    Calls Tryd.prog 31 #[.agg (cells s).toArray, .string blk] w fun e w' => e = .returned (.agg (cells (comp s blk.data.toList)).toArray) ∧ Below w.heap.size w w' := by
  have HG := Lib.hid hG
  have H2 := hG.two
  have HS := Lib.hid hs
  have HW := Lib.hid (words_any blk hb)
  obtain ⟨l, hl⟩ : ∃ l, Hid (l = blk.data.toList) := ⟨_, Lib.hid rfl⟩
  clear hG hs hb
  rw [← hl.out] at HW ⊢
  obtain ⟨cs, hcs⟩ : ∃ cs, Hid (cs = rowOf .u32 64 (W l)) := ⟨_, Lib.hid rfl⟩
  rw [← hcs.out] at HW
  have hsz : Hid ((Tryd.prog.info? 53).map (·.size) = some cs.length) := by unfold Hid; rw [hcs.out]; exact size53 _
  have hone : Hid (∀ v ∈ cs, v.oneCell' = true) := by unfold Hid; rw [hcs.out]; exact rowOf_one _ _ _
  have hlen : Hid ((rowOf .u32 64 (fun _ => 0)).toArray.size = cs.length) := by unfold Hid; rw [hcs.out, rowOf_length, rowOf_size]
  go_enter Tryd.func31, Tryd.ntmps31
  go_wp2_with (refine wpList_run rfl _ (exec_alloc_agg _ 39 rfl _ (zero39 _)) ?_)
  refine (HW.out _).mono ?_
  rintro e w1 ⟨rfl, hb1⟩
  have HB1 := Lib.hid hb1
  clear hb1
  go_wp2_with (first | (refine wpList_run rfl _ (exec_alloc_agg _ 53 rfl _ (zero53 _)) ?_) | (refine wpList_run0 rfl (exec_store_new w1 53 (.tmp 5) (.tmp 20) rfl _ 53 rfl cs rfl hlen.out hone.out hsz.out) ?_))
  have HR0 : Hid ((w1.alloc (.cells cs.toArray 53)).heap[w.heap.size]? = some (.cells (cells s).toArray 39 (0, 0))) := by
    unfold Hid
    rw [Below.heap_alloc _ _ _ (by have := HB1.out.size; simp at this; omega), HB1.out.block _ (by rw [World.size_alloc, World.size_alloc]; omega)]
    exact heap_alloc2_old w _ _
  have HR1 : Hid ((w1.alloc (.cells cs.toArray 53)).heap[w.heap.size + 1]? = some (.cells (cells s0).toArray 39 (0, 0))) := by
    unfold Hid
    rw [Below.heap_alloc _ _ _ (by have := HB1.out.size; simp at this; omega), HB1.out.block _ (by rw [World.size_alloc, World.size_alloc]; omega)]
    exact heap_alloc2_new w _ _
  have HRW : Hid (Row (w1.alloc (.cells cs.toArray 53)) w1.heap.size 53 .u32 64 (W l)) := by unfold Hid; rw [hcs.out]; exact Row.new w1 53 .u32 64 (W l)
  have HBl : Hid (Below w.heap.size w (w1.alloc (.cells cs.toArray 53))) := by
    unfold Hid
    have h1 : Below w.heap.size w w1 := (((Below.refl _ w).alloc (Nat.le_refl _) _).alloc (by simp) _).trans (HB1.out.mono (by simp; omega))
    exact h1.alloc h1.size _
  have hgw : w.heap.size + 1 < w1.heap.size := by have := HB1.out.size; simp at this; omega
  obtain ⟨g5, hg5⟩ : ∃ g5, g5 = w1.heap.size := ⟨_, rfl⟩
  rw [← hg5] at HRW hgw ⊢
  obtain ⟨W5, hW5⟩ : ∃ W5, W5 = w1.alloc (.cells cs.toArray 53) := ⟨_, rfl⟩
  rw [← hW5] at HR0 HR1 HRW HBl ⊢
  clear hW5 hg5 HB1 hlen hone hsz HW hcs
  clear w1
  have c0 : W5.cell? ⟨w.heap.size, 0, none⟩ = some (.int .u32 s.a) := by rw [cell_of_row _ _ _ _ _ _ HR0.out]; rfl
  have c1 : W5.cell? ⟨w.heap.size, 1, none⟩ = some (.int .u32 s.b) := by rw [cell_of_row _ _ _ _ _ _ HR0.out]; rfl
  have c2 : W5.cell? ⟨w.heap.size, 2, none⟩ = some (.int .u32 s.c) := by rw [cell_of_row _ _ _ _ _ _ HR0.out]; rfl
  have c3 : W5.cell? ⟨w.heap.size, 3, none⟩ = some (.int .u32 s.d) := by rw [cell_of_row _ _ _ _ _ _ HR0.out]; rfl
  have c4 : W5.cell? ⟨w.heap.size, 4, none⟩ = some (.int .u32 s.e) := by rw [cell_of_row _ _ _ _ _ _ HR0.out]; rfl
  have c5 : W5.cell? ⟨w.heap.size, 5, none⟩ = some (.int .u32 s.f) := by rw [cell_of_row _ _ _ _ _ _ HR0.out]; rfl
  have c6 : W5.cell? ⟨w.heap.size, 6, none⟩ = some (.int .u32 s.g) := by rw [cell_of_row _ _ _ _ _ _ HR0.out]; rfl
  have c7 : W5.cell? ⟨w.heap.size, 7, none⟩ = some (.int .u32 s.h) := by rw [cell_of_row _ _ _ _ _ _ HR0.out]; rfl
  go_quiet (fail)
  clear c0 c1 c2 c3 c4 c5 c6 c7
  go_wp2
  refine loop1_ok s l g5 _ W5 _ _ _ _ _ _ _ _ _ _ _ _ _ _ _ _ _ _ _ _ _ _ _ _ _ _ _ _ _ _ _ _ _ _ _ _ _ _ _ _ _ _ _ _ _ _ _ _ _ _ _ _ _ _ _ _ _ _ _ _ _ _ _ _ _ _ _ _ _ _ _ _ _ _ _ _ _ _ _ _ _ _ _ _ _ _ _ _ _ _ _ _ _ _ _ _ _ _ _ _ _ _ _ _ _ _ _ _ _ _ _ _ HS (Lib.hid (HG.out.below HBl.out)) HRW ?_
  rintro u14 u15 u16 u39 u40 u41 u42 u43 u44 u45 u46 u47 u48 u49 u50 u51 u52 u53 u54 u55 u56 u57 u58 u59 u60 u61 u62 u63 u64 u65 u66 u67 u68 u69 u70 u71 u72 u73 u74 u75 u76 u77 u78 u79 u80 u81 u82 u83 u84 u85 u86 u87 u88 u89 u90 u91 u92 u93 u94 u95 u96 u97 u98 u99 t m ht
  obtain ⟨wr, hwr⟩ : ∃ wr, wr = W5.drewN m := ⟨_, rfl⟩
  rw [← hwr]
  have HFin : Hid (plus s t = comp s l) := by unfold Hid; rw [ht.out]; rfl
  have HGw : Hid (Below w.heap.size w wr) := by unfold Hid; rw [hwr]; exact Below.drewN' HBl.out m
  have HRr : Hid (wr.heap[w.heap.size + 1]? = some (.cells (cells s0).toArray 39 (0, 0))) := by unfold Hid; rw [hwr]; exact HR1.out
  have HRs : Hid (Row wr w.heap.size 39 .u32 8 (PTo s t 0)) := by unfold Hid; rw [hwr]; exact HR0.out
  clear hwr HR0 HR1 HRW HBl ht
  go_wp2
  refine loop2_ok s t w.heap.size w wr _ _ _ _ _ _ _ _ _ _ _ _ _ _ _ _ _ _ _ _ _ _ _ _ _ _ _ _ _ _ _ _ _ _ _ _ _ _ _ _ _ _ _ _ _ _ _ _ _ _ _ _ _ _ _ _ _ _ _ _ _ _ _ _ _ _ _ _ _ _ _ _ _ _ _ _ _ _ _ _ _ _ _ _ _ _ _ _ _ _ _ _ _ _ _ _ _ _ _ _ _ _ _ _ _ _ _ _ _ _ _ _ _ _ _ _ _ _ _ HRr.out HRs.out HGw.out ?_
  clear HRr HRs HGw
  rintro u17 u18 u110 u111 u112 u113 u114 u115 u116 u117 u118 u119 wr ⟨hRr, hRs, hBw⟩
  have HRr := Lib.hid hRr
  have HRs := Lib.hid hRs
  have HBw := Lib.hid hBw
  clear hRr hRs hBw
  obtain ⟨cf, hcf⟩ : ∃ cf, Hid (cf = cells (comp s l)) := ⟨_, Lib.hid rfl⟩
  have HRc : Hid (wr.heap[w.heap.size]? = some (.cells cf.toArray 39 (0, 0))) := by unfold Hid; rw [hcf.out, ← HFin.out, ← PTo_all]; exact HRs.out
  have hseg : Hid (∀ j v, cf[j]? = some v → wr.cell? ⟨w.heap.size, 0 + j, none⟩ = some v) := by
    intro j v hv
    rw [cell_of_row _ _ _ _ _ _ HRc.out, Nat.zero_add, List.getElem?_toArray, hv]
  have hsz : Hid ((Tryd.prog.info? 39).map (·.size) = some cf.length) := by unfold Hid; rw [hcf.out]; exact cells_size _
  have hone : Hid (∀ v ∈ cf, v.oneCell' = true) := by unfold Hid; rw [hcf.out]; exact cells_one _
  have hfit : Hid (0 + cf.length ≤ (cells s0).toArray.size) := by unfold Hid; rw [hcf.out, cells_len, List.size_toArray, cells_len]; exact Nat.le_refl _
  have hsz8 : Hid ((cells s0).toArray.size = cf.length) := by unfold Hid; rw [hcf.out, cells_len, List.size_toArray, cells_len]
  clear HRs
  go_wp2_with (first | (refine wpList_load_seg rfl 39 (.tmp 2) rfl w.heap.size 0 rfl cf _ hseg.out Tryd.underlying39 rfl hsz.out ?_) | (refine wpList_store_seg rfl 39 (.tmp 4) (.tmp 120) rfl (w.heap.size + 1) 0 rfl cf rfl _ 39 HRr.out hfit.out hone.out hsz.out ?_))
  have hsp : splice (cells s0).toArray 0 cf = cf.toArray := splice_all _ _ hsz8.out
  rw [hsp]
  have hld : (loadVar 39 ⟨w.heap.size + 1, 0, none⟩).run Tryd.prog (wr.setRow (w.heap.size + 1) cf.toArray) = .ok (.agg cf.toArray) (wr.setRow (w.heap.size + 1) cf.toArray) := by
    refine run_loadVar_seg _ 39 (w.heap.size + 1) 0 cf _ (fun j v hv => ?_) Tryd.underlying39 rfl hsz.out
    rw [cell_of_row _ (w.heap.size + 1) (0 + j) cf.toArray 39 (0, 0) (setRow_heap _ _ _ _ _ _ HRr.out), Nat.zero_add, List.getElem?_toArray, hv]
  have hbel : Below w.heap.size w (wr.setRow (w.heap.size + 1) cf.toArray) := by
    exact HBw.out.trans ⟨rfl, rfl, rfl, by simp, fun k hk => setRow_other _ _ _ _ (by omega)⟩
  generalize wr.setRow (w.heap.size + 1) cf.toArray = W2 at *
  exact bodyPost_ret (v := .agg cf.toArray) (results_cell rfl _ _ _ ⟨w.heap.size + 1, 0, none⟩ rfl _ hld) rfl ⟨by rw [hcf.out], hbel⟩
end Go.Proofs.YtjkbbndiickcnaaDoor
