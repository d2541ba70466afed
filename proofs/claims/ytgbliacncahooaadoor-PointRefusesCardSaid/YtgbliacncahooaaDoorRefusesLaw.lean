/- The law PointRefuses walked: it returns true at any numbers, and no memory that was there is changed. No condition but that the package's numbers stand in memory. -/
import Derived.Test.YtgbliacncahooaaDoorGFromPt
import Derived.Test.YtgbliacncahooaaDoorGAwakeP
import Derived.Test.YtgbliacncahooaaDoorRefMath
import Derived.Lib.SlBytesConst
namespace Go.Proofs.YtgbliacncahooaaDoor
open Go.RowKit Go.Shelf
set_option linter.unusedVariables false
set_option linter.unusedSimpArgs false
theorem Buf.put {W : World} {g : Nat} {l : List UInt8} (h : Buf W g l) (j : Nat) (hj : j < l.length) (c : UInt8) : Buf (W.setCell ⟨g, j, none⟩ (.int .u8 (c.toNat : Int))) g (l.set j c) := by
  obtain ⟨row, z, hg, hz, hr⟩ := h
  refine ⟨row.setIfInBounds j (.int .u8 (c.toNat : Int)), z, (by rw [setCell_eq_setRow W g j row 5 (z, z + 1) _ hg]; exact setRow_heap W g row _ 5 (z, z + 1) hg), by rw [List.length_set]; exact hz, ?_⟩
  intro i hi
  rw [List.length_set] at hi
  have hb := (Array.getElem?_eq_some_iff.1 (hr j hj)).1
  rw [Array.getElem?_setIfInBounds]
  by_cases e : j = i
  · subst e
    rw [if_pos rfl, if_pos hb]
    simp [List.getD_eq_getElem?_getD, hj]
  · rw [if_neg e, hr i hi]
    simp [List.getD_eq_getElem?_getD, e]
theorem Buf.later {W W2 : World} {g : Nat} {l : List UInt8} (h : Buf W g l) (hb : Below W.heap.size W W2) : Buf W2 g l := by
  obtain ⟨row, z, hg, hz, hr⟩ := h
  exact ⟨row, z, (hb.block g (Array.getElem?_eq_some_iff.1 hg).1).trans hg, hz, hr⟩
theorem Buf.inb {W : World} {g : Nat} {l : List UInt8} (h : Buf W g l) : g < W.heap.size := by
  obtain ⟨row, z, hg, -, -⟩ := h
  exact (Array.getElem?_eq_some_iff.1 hg).1
def top32 : List UInt8 := ((237 : UInt8) :: List.replicate 30 255) ++ [127]
theorem top_const (w : World) : (Go.convert 44 44 (.slice (some ⟨w.heap.size, 0, none⟩) 32 32)).run Tryd.prog (w.alloc (.cells #[.int .u8 237, .int .u8 255, .int .u8 255, .int .u8 255, .int .u8 255, .int .u8 255, .int .u8 255, .int .u8 255, .int .u8 255, .int .u8 255, .int .u8 255, .int .u8 255, .int .u8 255, .int .u8 255, .int .u8 255, .int .u8 255, .int .u8 255, .int .u8 255, .int .u8 255, .int .u8 255, .int .u8 255, .int .u8 255, .int .u8 255, .int .u8 255, .int .u8 255, .int .u8 255, .int .u8 255, .int .u8 255, .int .u8 255, .int .u8 255, .int .u8 255, .int .u8 127] 5)) = .ok (.slice (some ⟨w.heap.size, 0, none⟩) 32 32) (w.alloc (.cells #[.int .u8 237, .int .u8 255, .int .u8 255, .int .u8 255, .int .u8 255, .int .u8 255, .int .u8 255, .int .u8 255, .int .u8 255, .int .u8 255, .int .u8 255, .int .u8 255, .int .u8 255, .int .u8 255, .int .u8 255, .int .u8 255, .int .u8 255, .int .u8 255, .int .u8 255, .int .u8 255, .int .u8 255, .int .u8 255, .int .u8 255, .int .u8 255, .int .u8 255, .int .u8 255, .int .u8 255, .int .u8 255, .int .u8 255, .int .u8 255, .int .u8 255, .int .u8 127] 5 (32, 33))) :=
  Lib.run_convert_bytes_const (P := Tryd.prog) w 44 5 #[.int .u8 237, .int .u8 255, .int .u8 255, .int .u8 255, .int .u8 255, .int .u8 255, .int .u8 255, .int .u8 255, .int .u8 255, .int .u8 255, .int .u8 255, .int .u8 255, .int .u8 255, .int .u8 255, .int .u8 255, .int .u8 255, .int .u8 255, .int .u8 255, .int .u8 255, .int .u8 255, .int .u8 255, .int .u8 255, .int .u8 255, .int .u8 255, .int .u8 255, .int .u8 255, .int .u8 255, .int .u8 255, .int .u8 255, .int .u8 255, .int .u8 255, .int .u8 127] 32 32 Tryd.underlying44 Tryd.underlying5
theorem top_cells : (#[.int .u8 237, .int .u8 255, .int .u8 255, .int .u8 255, .int .u8 255, .int .u8 255, .int .u8 255, .int .u8 255, .int .u8 255, .int .u8 255, .int .u8 255, .int .u8 255, .int .u8 255, .int .u8 255, .int .u8 255, .int .u8 255, .int .u8 255, .int .u8 255, .int .u8 255, .int .u8 255, .int .u8 255, .int .u8 255, .int .u8 255, .int .u8 255, .int .u8 255, .int .u8 255, .int .u8 255, .int .u8 255, .int .u8 255, .int .u8 255, .int .u8 255, .int .u8 127] : Array Value) = (top32.map fun b => Value.int .u8 (b.toNat : Int)).toArray := by kernel_rfl
theorem buf_row (w : World) (l : List UInt8) (z : Nat) (hz : l.length ≤ z) : Buf (w.alloc (.cells (l.map fun b => Value.int .u8 (b.toNat : Int)).toArray 5 (z, z + 1))) w.heap.size l := by
  refine ⟨_, z, World.alloc_heap_new w _, hz, ?_⟩
  intro j hj
  simp [List.getD_eq_getElem?_getD, hj]
theorem top_buf (w : World) : Buf (w.alloc (.cells #[.int .u8 237, .int .u8 255, .int .u8 255, .int .u8 255, .int .u8 255, .int .u8 255, .int .u8 255, .int .u8 255, .int .u8 255, .int .u8 255, .int .u8 255, .int .u8 255, .int .u8 255, .int .u8 255, .int .u8 255, .int .u8 255, .int .u8 255, .int .u8 255, .int .u8 255, .int .u8 255, .int .u8 255, .int .u8 255, .int .u8 255, .int .u8 255, .int .u8 255, .int .u8 255, .int .u8 255, .int .u8 255, .int .u8 255, .int .u8 255, .int .u8 255, .int .u8 127] 5 (32, 33))) w.heap.size top32 := by
  rw [top_cells]
  exact buf_row w top32 32 (by decide)
/-- Behind a store of what From tells: nothing that was there has turned. -/
theorem kept26 (w1 : World) (Z P0 : Array Value) : ∃ w2, (w1.alloc (.cells Z 26)).setRow w1.heap.size P0 = w2 ∧ Below w1.heap.size w1 w2 :=
  ⟨_, rfl, ((Below.refl _ w1).alloc (Nat.le_refl _) _).trans ⟨rfl, rfl, rfl, by simp, fun k hk => setRow_other _ _ _ _ (by omega)⟩⟩
def bR (l : List UInt8) : Array Value := (l.map fun b => Value.int .u8 (b.toNat : Int)).toArray
theorem conv_bR (W : World) (g cap : Nat) (l : List UInt8) (n : Nat) (hn : l.length = n) (h : W.heap[g]? = some (.cells (bR l) 5 (0, 0))) : (Go.convert 44 9 (.slice (some ⟨g, 0, none⟩) n cap)).run Tryd.prog W = .ok (.string ⟨l.toArray⟩) W := by
  rw [← hn]
  refine run_convert_bytes_back (P := Tryd.prog) W 44 9 5 ⟨g, 0, none⟩ cap l Tryd.underlying44 Tryd.underlying5 Tryd.underlying9 (fun j hj => ?_)
  rw [addr_add, Nat.zero_add, cell_of_row W g j _ 5 _ h]
  simp [bR, hj]
theorem exec_bld2 {ρ : Operand → Value} {o : Oper} (ho : o.op = .buildSlice 44 1 #[(0, .const (.int .u8 2))]) (w : World) (hc : ρ (.const (.int .u8 2)) = .int .u8 2 := by rfl) : (execOp ρ o).run Tryd.prog w = .ok (.value (.slice (some ⟨w.heap.size, 0, none⟩) 1 1)) (w.alloc (.cells (bR [2]) 5)) := by
  have h : (Instr.buildSlice 44 1 #[(0, .int .u8 2)]).run Tryd.prog w = .ok (.slice (some ⟨w.heap.size, 0, none⟩) 1 1) (w.alloc (.cells (bR [2]) 5)) := by kernel_rfl
  rw [← hc] at h
  unfold execOp
  simp [ho, h]
theorem exec_bld1 {ρ : Operand → Value} {o : Oper} (ho : o.op = .buildSlice 44 1 #[(0, .const (.int .u8 1))]) (w : World) (hc : ρ (.const (.int .u8 1)) = .int .u8 1 := by rfl) : (execOp ρ o).run Tryd.prog w = .ok (.value (.slice (some ⟨w.heap.size, 0, none⟩) 1 1)) (w.alloc (.cells (bR [1]) 5)) := by
  have h : (Instr.buildSlice 44 1 #[(0, .int .u8 1)]).run Tryd.prog w = .ok (.slice (some ⟨w.heap.size, 0, none⟩) 1 1) (w.alloc (.cells (bR [1]) 5)) := by kernel_rfl
  rw [← hc] at h
  unfold execOp
  simp [ho, h]
theorem exec_mk31 {ρ : Operand → Value} {o : Oper} (ho : o.op = .makeSlice 44 (.const (.int .i64 31)) (.const (.int .i64 31))) (w : World) (hc : ρ (.const (.int .i64 31)) = .int .i64 31 := by rfl) : (execOp ρ o).run Tryd.prog w = .ok (.value (.slice (some ⟨w.heap.size, 0, none⟩) 31 31)) (w.alloc (.cells (bR (List.replicate 31 0)) 5)) := by
  have h : (Instr.makeSlice 44 (.int .i64 31) (.int .i64 31)).run Tryd.prog w = .ok (.slice (some ⟨w.heap.size, 0, none⟩) 31 31) (w.alloc (.cells (bR (List.replicate 31 0)) 5)) := by kernel_rfl
  rw [← hc] at h
  unfold execOp
  simp [ho, h]
theorem exec_mk30 {ρ : Operand → Value} {o : Oper} (ho : o.op = .makeSlice 44 (.const (.int .i64 30)) (.const (.int .i64 30))) (w : World) (hc : ρ (.const (.int .i64 30)) = .int .i64 30 := by rfl) : (execOp ρ o).run Tryd.prog w = .ok (.value (.slice (some ⟨w.heap.size, 0, none⟩) 30 30)) (w.alloc (.cells (bR (List.replicate 30 0)) 5)) := by
  have h : (Instr.makeSlice 44 (.int .i64 30) (.int .i64 30)).run Tryd.prog w = .ok (.slice (some ⟨w.heap.size, 0, none⟩) 30 30) (w.alloc (.cells (bR (List.replicate 30 0)) 5)) := by kernel_rfl
  rw [← hc] at h
  unfold execOp
  simp [ho, h]
theorem below_then {w w1 w2 : World} (h : Below w.heap.size w w1) (hb : Below w1.heap.size w1 w2) : Below w.heap.size w w2 := h.trans (hb.mono h.size)
set_option maxRecDepth 100000 in
set_option maxHeartbeats 4000000 in
theorem refuses_any (n : Nat) (s : ByteArray) (Wn : n < 256) (hs0 : s.size ≤ 9223372036854775807) (w : World) (hT0 : GlobT w) (hG0 : Glob w) :
    Calls Tryd.prog 7 #[.int .u8 (n : Int), .string s] w fun e w' => e = .returned (.bool true) ∧ Below w.heap.size w w' := by
  have HG := Lib.hid hG0
  have HT := Lib.hid hT0
  obtain ⟨P0, hP0⟩ : ∃ P0, Hid (P0 = ptV (0, 0)) := ⟨_, Lib.hid rfl⟩
  have HIP : IsRw 8 P0 := by rw [hP0.out]; exact ptV_rw _
  obtain ⟨Z, hZ⟩ : ∃ Z, Hid (Z = (rowOf .u64 8 (fun _ => 0)).toArray) := ⟨_, Lib.hid rfl⟩
  have HZ : ∀ w, (zeroValue 26).run Tryd.prog w = .ok (.agg Z) w := by rw [hZ.out]; exact zeroT26
  have SZ : Z.size = 8 := by rw [hZ.out]; rfl
  have HF : Hid (∀ t, fromP t = ((0, 0), false) → ∀ W, GlobT W → Glob W → Calls Tryd.prog 11 #[.string t] W fun e w' => e = .returned (.tuple #[.agg P0, .bool false]) ∧ Below W.heap.size W w') := Lib.hid (fun t ht W h1 h2 => by
    have h := from_pt t W h1 h2
    rw [ht] at h
    rw [hP0.out]
    exact h)
  obtain ⟨m, hm⟩ : ∃ m, m = n % 19 := ⟨_, rfl⟩
  obtain ⟨b, hb⟩ : ∃ b : UInt8, b.toNat = 237 + n % 19 := ⟨UInt8.ofNat (237 + n % 19), by rw [UInt8.toNat_ofNat']; omega⟩
  have hrem : Int.tmod (n : Int) 19 = (m : Int) := by rw [hm]; exact Int.ofNat_tmod n 19
  have hadd : IntKind.u8.wrap (237 + (m : Int)) = (b.toNat : Int) := by
    rw [hb, ← hm]
    simp [IntKind.wrap, IntKind.bits, IntKind.signed]
    omega
  have q1 := no_big b 127 127 n hb (by decide) (by decide)
  have q2 := no_big b 255 127 n hb (by decide) (by decide)
  have q3 := no_two
  have q4 := no_odd
  obtain ⟨T1, hT1⟩ : ∃ T1 : ByteArray, Hid (T1 = ⟨((b :: List.replicate 30 255) ++ [127]).toArray⟩) := ⟨_, Lib.hid rfl⟩
  obtain ⟨T2, hT2⟩ : ∃ T2 : ByteArray, Hid (T2 = ⟨((b :: List.replicate 30 255) ++ [255]).toArray⟩) := ⟨_, Lib.hid rfl⟩
  obtain ⟨T3, hT3⟩ : ∃ T3 : ByteArray, Hid (T3 = ⟨(((2 : UInt8) :: List.replicate 30 0) ++ [0]).toArray⟩) := ⟨_, Lib.hid rfl⟩
  obtain ⟨T4, hT4⟩ : ∃ T4 : ByteArray, Hid (T4 = ⟨(((1 : UInt8) :: List.replicate 30 0) ++ [128]).toArray⟩) := ⟨_, Lib.hid rfl⟩
  rw [← hT1.out] at q1
  rw [← hT2.out] at q2
  rw [← hT3.out] at q3
  rw [← hT4.out] at q4
  have F1 := Lib.hid (HF.out T1 q1)
  have F2 := Lib.hid (HF.out T2 q2)
  have F3 := Lib.hid (HF.out T3 q3)
  have F4 := Lib.hid (HF.out T4 q4)
  clear q1 q2 q3 q4
  obtain ⟨U2, hU2⟩ : ∃ U2 : ByteArray, Hid (U2 = ⟨([2] : List UInt8).toArray⟩) := ⟨_, Lib.hid rfl⟩
  obtain ⟨U1, hU1⟩ : ∃ U1 : ByteArray, Hid (U1 = ⟨([1] : List UInt8).toArray⟩) := ⟨_, Lib.hid rfl⟩
  obtain ⟨Z31, hZ31⟩ : ∃ Z31 : ByteArray, Hid (Z31 = ⟨(List.replicate 31 (0 : UInt8)).toArray⟩) := ⟨_, Lib.hid rfl⟩
  obtain ⟨Z30, hZ30⟩ : ∃ Z30 : ByteArray, Hid (Z30 = ⟨(List.replicate 30 (0 : UInt8)).toArray⟩) := ⟨_, Lib.hid rfl⟩
  obtain ⟨T4a, hT4a⟩ : ∃ T4a : ByteArray, Hid (T4a = U1 ++ Z30) := ⟨_, Lib.hid rfl⟩
  have cat3 : Hid (U2 ++ Z31 = T3 ∧ (U2.size : Int) = 1 ∧ (Z31.size : Int) = 31) := Lib.hid (by rw [hU2.out, hZ31.out, hT3.out]; exact ⟨by kernel_rfl, by kernel_rfl, by kernel_rfl⟩)
  have cat4a : Hid (U1 ++ Z30 = T4a ∧ (U1.size : Int) = 1 ∧ (Z30.size : Int) = 30) := Lib.hid (by rw [hT4a.out, hU1.out, hZ30.out]; exact ⟨rfl, by kernel_rfl, by kernel_rfl⟩)
  have cat4 : Hid (T4a ++ ⟨#[128]⟩ = T4 ∧ (T4a.size : Int) = 31) := Lib.hid (by rw [hT4a.out, hU1.out, hZ30.out, hT4.out]; exact ⟨by kernel_rfl, by kernel_rfl⟩)
  have conv_a6 : ∀ (W : World) (g : Nat), W.heap[g]? = some (.cells (bR [2]) 5 (0, 0)) → (Go.convert 44 9 (.slice (some ⟨g, 0, none⟩) 1 1)).run Tryd.prog W = .ok (.string U2) W := by rw [hU2.out]; exact fun W g h => conv_bR W g 1 [2] 1 rfl h
  have conv_c6 : ∀ (W : World) (g : Nat), W.heap[g]? = some (.cells (bR (List.replicate 31 0)) 5 (0, 0)) → (Go.convert 44 9 (.slice (some ⟨g, 0, none⟩) 31 31)).run Tryd.prog W = .ok (.string Z31) W := by rw [hZ31.out]; exact fun W g h => conv_bR W g 31 _ 31 (List.length_replicate ..) h
  have conv_a8 : ∀ (W : World) (g : Nat), W.heap[g]? = some (.cells (bR [1]) 5 (0, 0)) → (Go.convert 44 9 (.slice (some ⟨g, 0, none⟩) 1 1)).run Tryd.prog W = .ok (.string U1) W := by rw [hU1.out]; exact fun W g h => conv_bR W g 1 [1] 1 rfl h
  have conv_c8 : ∀ (W : World) (g : Nat), W.heap[g]? = some (.cells (bR (List.replicate 30 0)) 5 (0, 0)) → (Go.convert 44 9 (.slice (some ⟨g, 0, none⟩) 30 30)).run Tryd.prog W = .ok (.string Z30) W := by rw [hZ30.out]; exact fun W g h => conv_bR W g 30 _ 30 (List.length_replicate ..) h
  have htc := top_const w
  have hbuf := top_buf w
  have hbw : Below w.heap.size w (w.alloc (.cells #[.int .u8 237, .int .u8 255, .int .u8 255, .int .u8 255, .int .u8 255, .int .u8 255, .int .u8 255, .int .u8 255, .int .u8 255, .int .u8 255, .int .u8 255, .int .u8 255, .int .u8 255, .int .u8 255, .int .u8 255, .int .u8 255, .int .u8 255, .int .u8 255, .int .u8 255, .int .u8 255, .int .u8 255, .int .u8 255, .int .u8 255, .int .u8 255, .int .u8 255, .int .u8 255, .int .u8 255, .int .u8 255, .int .u8 255, .int .u8 255, .int .u8 255, .int .u8 127] 5 (32, 33))) := (Below.refl _ w).alloc (Nat.le_refl _) _
  clear hG0 hT0
  go_enter Tryd.func7, Tryd.ntmps7
  go_upto_region 2 with fail
  generalize w.alloc (.cells #[.int .u8 237, .int .u8 255, .int .u8 255, .int .u8 255, .int .u8 255, .int .u8 255, .int .u8 255, .int .u8 255, .int .u8 255, .int .u8 255, .int .u8 255, .int .u8 255, .int .u8 255, .int .u8 255, .int .u8 255, .int .u8 255, .int .u8 255, .int .u8 255, .int .u8 255, .int .u8 255, .int .u8 255, .int .u8 255, .int .u8 255, .int .u8 255, .int .u8 255, .int .u8 255, .int .u8 255, .int .u8 255, .int .u8 255, .int .u8 255, .int .u8 255, .int .u8 127] 5 (32, 33)) = w1 at *
  obtain ⟨g, hg⟩ : ∃ g, Hid (g = w.heap.size) := ⟨_, Lib.hid rfl⟩
  rw [← hg.out] at hbuf ⊢
  have c0 : w1.cell? ⟨g, 0, none⟩ = some (.int .u8 237) := hbuf.cell 0 (by decide)
  have f0 : w1.frozen? ⟨g, 0, none⟩ = false := hbuf.free 0 (by decide)
  have HBF : Hid (Buf (w1.setCell ⟨g, 0, none⟩ (.int .u8 (b.toNat : Int))) g (((b :: List.replicate 30 255)) ++ [127])) := Lib.hid (hbuf.put 0 (by decide) b)
  have HBW : Hid (Below w.heap.size w (w1.setCell ⟨g, 0, none⟩ (.int .u8 (b.toNat : Int)))) := Lib.hid (hbw.setCell (p := ⟨g, 0, none⟩) (by rw [hg.out]; exact Nat.le_refl _) _)
  clear hbuf hbw htc hb hm
  go_upto_region 3 with fail
  generalize w1.setCell ⟨g, 0, none⟩ (.int .u8 (b.toNat : Int)) = w2 at *
  have HBW2 := HBW
  have hcv3 : (Go.convert 44 9 (.slice (some ⟨g, 0, none⟩) 32 32)).run Tryd.prog w2 = .ok (.string T1) w2 := by
    rw [hT1.out]
    exact HBF.out.str rfl
  clear c0 f0
  have gT3 := HT.out.below HBW2.out
  have gG3 := HG.out.below HBW2.out
  go_upto_region 4 with (first
    | (go_at_call 11; refine (F1.out _ gT3 gG3).mono ?_; rintro e v3 ⟨rfl, hb3⟩)
    | (refine wpList_run rfl _ (exec_alloc_agg _ 26 rfl _ (HZ _)) ?_)
    | (refine wpList_run0 rfl (exec_storeT26 _ (.tmp 6) (.tmp 32) rfl v3.heap.size rfl P0 HIP rfl Z 26 (World.alloc_heap_new v3 _) SZ) ?_))
  try simp only [Act.put, List.setIfInBounds_toArray, List.set_cons_succ, List.set_cons_zero]
  obtain ⟨w3, hw3, hbb3⟩ := kept26 v3 Z P0
  have HBW3 := Lib.hid (below_then (below_then HBW2.out hb3) hbb3)
  have HBF3 := Lib.hid ((HBF.out.later hb3).later (hbb3.mono (Nat.le_refl _)))
  clear hcv3
  generalize v3.heap.size = gg3 at *
  rw [hw3]
  clear hb3 hbb3 hw3 gT3 gG3
  obtain ⟨v31, c31⟩ : ∃ v, w3.cell? ⟨g, 31, none⟩ = some v := ⟨_, HBF3.out.cell 31 (by simp)⟩
  have f31 : w3.frozen? ⟨g, 31, none⟩ = false := HBF3.out.free 31 (by simp)
  have HBF4 : Hid (Buf (w3.setCell ⟨g, 31, none⟩ (.int .u8 255)) g (((b :: List.replicate 30 255)) ++ [255])) := Lib.hid (HBF3.out.put 31 (by simp) 255)
  have HBW4 : Hid (Below w.heap.size w (w3.setCell ⟨g, 31, none⟩ (.int .u8 255))) := Lib.hid (HBW3.out.setCell (p := ⟨g, 31, none⟩) (by rw [hg.out]; exact Nat.le_refl _) _)
  go_upto_region 5 with fail
  generalize w3.setCell ⟨g, 31, none⟩ (.int .u8 255) = w4 at *
  have hcv5 : (Go.convert 44 9 (.slice (some ⟨g, 0, none⟩) 32 32)).run Tryd.prog w4 = .ok (.string T2) w4 := by
    rw [hT2.out]
    exact HBF4.out.str rfl
  clear c31 f31 HBF HBF3
  have gT5 := HT.out.below HBW4.out
  have gG5 := HG.out.below HBW4.out
  go_upto_region 6 with (first
    | (go_at_call 11; refine (F2.out _ gT5 gG5).mono ?_; rintro e v5 ⟨rfl, hb5⟩)
    | (refine wpList_run rfl _ (exec_alloc_agg _ 26 rfl _ (HZ _)) ?_)
    | (refine wpList_run0 rfl (exec_storeT26 _ (.tmp 8) (.tmp 40) rfl v5.heap.size rfl P0 HIP rfl Z 26 (World.alloc_heap_new v5 _) SZ) ?_))
  try simp only [Act.put, List.setIfInBounds_toArray, List.set_cons_succ, List.set_cons_zero]
  obtain ⟨w5, hw5, hbb5⟩ := kept26 v5 Z P0
  have HBW5 := Lib.hid (below_then (below_then HBW4.out hb5) hbb5)
  clear hcv5 HBF4
  generalize v5.heap.size = gg5 at *
  rw [hw5]
  clear hb5 hbb5 hw5 gT5 gG5
  refine wp_cut (fun a' W' => ∃ x42 x44, a' = { tmps := #[.int .u8 (n : Int), .string s, undef, undef, .bool false, .slice (some ⟨g, 0, none⟩) 32 32, .pointer (some ⟨gg3, 0, none⟩), .bool false, .pointer (some ⟨gg5, 0, none⟩), .bool false, .string T3, undef, undef, undef, undef, undef, undef, undef, .slice (some ⟨g, 0, none⟩) 32 32, .slice (some ⟨g, 0, none⟩) 32 32, .slice (some ⟨g, 0, none⟩) 32 32, .slice (some ⟨g, 0, none⟩) 32 32, .pointer (some ⟨g, 0, none⟩), .int .u8 237, .int .u8 (n : Int), .int .u8 (m : Int), .int .u8 (b.toNat : Int), .pointer (some ⟨g, 0, none⟩), .tuple #[.agg P0, .bool false], .slice (some ⟨g, 0, none⟩) 32 32, .string T1, .tuple #[.agg P0, .bool false], .agg P0, .bool false, .slice (some ⟨g, 0, none⟩) 32 32, .pointer (some ⟨g, 31, none⟩), .tuple #[.agg P0, .bool false], .slice (some ⟨g, 0, none⟩) 32 32, .string T2, .tuple #[.agg P0, .bool false], .agg P0, .bool false, x42, .string U2, x44, .string Z31, .string T3, undef, undef, undef, undef, undef, undef, undef, undef, undef, undef, undef, undef, undef, undef, undef, undef, undef, undef, undef, undef, undef, undef, undef, undef, undef, undef, undef, undef, undef, undef, undef, undef, undef, undef, undef, undef, undef, undef, undef, undef, undef, undef, undef, undef, undef, undef, undef, undef, undef, undef], defers := [] } ∧ Below w.heap.size w W') ?_ ?_
  · refine wp_region_any (by kernel_rfl) ?_
    change wpAny _ _ _ _ _ _ _ (World.drew _)
    have hs6 := HBW5.out.drew
    generalize w5.drew = wd6 at *
    refine any_of_F (S := fun W => Below w.heap.size w W) (f := 1000) _ _ _ _ ?_
    refine AnyF.ready (rs := [0, 2]) (by kernel_rfl) (by simp) (ReadyF.op (w2 := wd6.alloc (.cells (bR ([2])) 5)) (some 42) (.buildSlice 44 1 #[(0, .const (.int .u8 2))]) rfl (.slice (some ⟨wd6.heap.size, 0, none⟩) 1 1) (fun o ho => exec_bld2 ho _) (Below.alloc hs6 (Below.size hs6) _) ?_ (ReadyF.op (w2 := wd6.alloc (.cells (bR (List.replicate 31 0)) 5)) (some 44) (.makeSlice 44 (.const (.int .i64 31)) (.const (.int .i64 31))) rfl (.slice (some ⟨wd6.heap.size, 0, none⟩) 31 31) (fun o ho => exec_mk31 ho _) (Below.alloc hs6 (Below.size hs6) _) ?_ ReadyF.nil))
    · simp only [Act.put, List.setIfInBounds_toArray, List.set_cons_succ, List.set_cons_zero]
      have hq6_3 : (wd6.alloc (.cells (bR ([2])) 5)).heap[wd6.heap.size]? = some (.cells (bR ([2])) 5 (0, 0)) := World.alloc_heap_new wd6 _
      have hs6_4 : Below w.heap.size w (wd6.alloc (.cells (bR ([2])) 5)) := Below.alloc hs6 (Below.size hs6) _
      generalize wd6.alloc (.cells (bR ([2])) 5) = wq6_1 at *
      generalize wd6.heap.size = gq6_2 at *
      refine AnyF.ready (rs := [1, 2]) (by kernel_rfl) (by simp) (ReadyF.op (w2 := wq6_1) (some 43) (.convert 44 9 (.tmp 42)) rfl (.string U2) (fun o ho => exec_convG 44 9 (.tmp 42) ho _ rfl _ _ _ (conv_a6 wq6_1 gq6_2 hq6_3)) (hs6_4) ?_ (ReadyF.op (w2 := wq6_1.alloc (.cells (bR (List.replicate 31 0)) 5)) (some 44) (.makeSlice 44 (.const (.int .i64 31)) (.const (.int .i64 31))) rfl (.slice (some ⟨wq6_1.heap.size, 0, none⟩) 31 31) (fun o ho => exec_mk31 ho _) (Below.alloc hs6_4 (Below.size hs6_4) _) ?_ ReadyF.nil))
      · simp only [Act.put, List.setIfInBounds_toArray, List.set_cons_succ, List.set_cons_zero]
        refine AnyF.ready (rs := [2]) (by kernel_rfl) (by simp) (ReadyF.op (w2 := wq6_1.alloc (.cells (bR (List.replicate 31 0)) 5)) (some 44) (.makeSlice 44 (.const (.int .i64 31)) (.const (.int .i64 31))) rfl (.slice (some ⟨wq6_1.heap.size, 0, none⟩) 31 31) (fun o ho => exec_mk31 ho _) (Below.alloc hs6_4 (Below.size hs6_4) _) ?_ ReadyF.nil)
        simp only [Act.put, List.setIfInBounds_toArray, List.set_cons_succ, List.set_cons_zero]
        have hq6_7 : (wq6_1.alloc (.cells (bR (List.replicate 31 0)) 5)).heap[wq6_1.heap.size]? = some (.cells (bR (List.replicate 31 0)) 5 (0, 0)) := World.alloc_heap_new wq6_1 _
        have hs6_8 : Below w.heap.size w (wq6_1.alloc (.cells (bR (List.replicate 31 0)) 5)) := Below.alloc hs6_4 (Below.size hs6_4) _
        have hq6_9 := (Below.heap_alloc wq6_1 (.cells (bR (List.replicate 31 0)) 5) gq6_2 (Array.getElem?_eq_some_iff.1 hq6_3).1).trans hq6_3
        generalize wq6_1.alloc (.cells (bR (List.replicate 31 0)) 5) = wq6_5 at *
        generalize wq6_1.heap.size = gq6_6 at *
        refine AnyF.ready (rs := [3]) (by kernel_rfl) (by simp) (ReadyF.op (w2 := wq6_5) (some 45) (.convert 44 9 (.tmp 44)) rfl (.string Z31) (fun o ho => exec_convG 44 9 (.tmp 44) ho _ rfl _ _ _ (conv_c6 wq6_5 gq6_6 hq6_7)) (hs6_8) ?_ ReadyF.nil)
        simp only [Act.put, List.setIfInBounds_toArray, List.set_cons_succ, List.set_cons_zero]
        refine tkG 4 (some 46) (.binOp .add 9 (.tmp 43) (.tmp 45) 9) none (.string T3) (fun o ho w2 hw => by obtain ⟨q1, q2⟩ := cat3.out; unfold execOp; rw [ho]; go_simp; omega) (hs6_8) ?_
        simp only [Act.put, List.setIfInBounds_toArray, List.set_cons_succ, List.set_cons_zero]
        refine tkG 5 (some 10) (.assign (.tmp 46)) none (.string T3) (fun o ho w2 hw => by unfold execOp; rw [ho]; go_simp) (hs6_8) ?_
        simp only [Act.put, List.setIfInBounds_toArray, List.set_cons_succ, List.set_cons_zero]
        refine AnyF.done (by kernel_rfl) ?_ _
        exact nrm_intro ⟨_, _, rfl, hs6_8⟩
      · simp only [Act.put, List.setIfInBounds_toArray, List.set_cons_succ, List.set_cons_zero]
        have hq6_12 : (wq6_1.alloc (.cells (bR (List.replicate 31 0)) 5)).heap[wq6_1.heap.size]? = some (.cells (bR (List.replicate 31 0)) 5 (0, 0)) := World.alloc_heap_new wq6_1 _
        have hs6_13 : Below w.heap.size w (wq6_1.alloc (.cells (bR (List.replicate 31 0)) 5)) := Below.alloc hs6_4 (Below.size hs6_4) _
        have hq6_14 := (Below.heap_alloc wq6_1 (.cells (bR (List.replicate 31 0)) 5) gq6_2 (Array.getElem?_eq_some_iff.1 hq6_3).1).trans hq6_3
        generalize wq6_1.alloc (.cells (bR (List.replicate 31 0)) 5) = wq6_10 at *
        generalize wq6_1.heap.size = gq6_11 at *
        refine AnyF.ready (rs := [1, 3]) (by kernel_rfl) (by simp) (ReadyF.op (w2 := wq6_10) (some 43) (.convert 44 9 (.tmp 42)) rfl (.string U2) (fun o ho => exec_convG 44 9 (.tmp 42) ho _ rfl _ _ _ (conv_a6 wq6_10 gq6_2 hq6_14)) (hs6_13) ?_ (ReadyF.op (w2 := wq6_10) (some 45) (.convert 44 9 (.tmp 44)) rfl (.string Z31) (fun o ho => exec_convG 44 9 (.tmp 44) ho _ rfl _ _ _ (conv_c6 wq6_10 gq6_11 hq6_12)) (hs6_13) ?_ ReadyF.nil))
        · simp only [Act.put, List.setIfInBounds_toArray, List.set_cons_succ, List.set_cons_zero]
          refine AnyF.ready (rs := [3]) (by kernel_rfl) (by simp) (ReadyF.op (w2 := wq6_10) (some 45) (.convert 44 9 (.tmp 44)) rfl (.string Z31) (fun o ho => exec_convG 44 9 (.tmp 44) ho _ rfl _ _ _ (conv_c6 wq6_10 gq6_11 hq6_12)) (hs6_13) ?_ ReadyF.nil)
          simp only [Act.put, List.setIfInBounds_toArray, List.set_cons_succ, List.set_cons_zero]
          refine tkG 4 (some 46) (.binOp .add 9 (.tmp 43) (.tmp 45) 9) none (.string T3) (fun o ho w2 hw => by obtain ⟨q1, q2⟩ := cat3.out; unfold execOp; rw [ho]; go_simp; omega) (hs6_13) ?_
          simp only [Act.put, List.setIfInBounds_toArray, List.set_cons_succ, List.set_cons_zero]
          refine tkG 5 (some 10) (.assign (.tmp 46)) none (.string T3) (fun o ho w2 hw => by unfold execOp; rw [ho]; go_simp) (hs6_13) ?_
          simp only [Act.put, List.setIfInBounds_toArray, List.set_cons_succ, List.set_cons_zero]
          refine AnyF.done (by kernel_rfl) ?_ _
          exact nrm_intro ⟨_, _, rfl, hs6_13⟩
        · simp only [Act.put, List.setIfInBounds_toArray, List.set_cons_succ, List.set_cons_zero]
          refine AnyF.ready (rs := [1]) (by kernel_rfl) (by simp) (ReadyF.op (w2 := wq6_10) (some 43) (.convert 44 9 (.tmp 42)) rfl (.string U2) (fun o ho => exec_convG 44 9 (.tmp 42) ho _ rfl _ _ _ (conv_a6 wq6_10 gq6_2 hq6_14)) (hs6_13) ?_ ReadyF.nil)
          simp only [Act.put, List.setIfInBounds_toArray, List.set_cons_succ, List.set_cons_zero]
          refine tkG 4 (some 46) (.binOp .add 9 (.tmp 43) (.tmp 45) 9) none (.string T3) (fun o ho w2 hw => by obtain ⟨q1, q2⟩ := cat3.out; unfold execOp; rw [ho]; go_simp; omega) (hs6_13) ?_
          simp only [Act.put, List.setIfInBounds_toArray, List.set_cons_succ, List.set_cons_zero]
          refine tkG 5 (some 10) (.assign (.tmp 46)) none (.string T3) (fun o ho w2 hw => by unfold execOp; rw [ho]; go_simp) (hs6_13) ?_
          simp only [Act.put, List.setIfInBounds_toArray, List.set_cons_succ, List.set_cons_zero]
          refine AnyF.done (by kernel_rfl) ?_ _
          exact nrm_intro ⟨_, _, rfl, hs6_13⟩
    · simp only [Act.put, List.setIfInBounds_toArray, List.set_cons_succ, List.set_cons_zero]
      have hq6_17 : (wd6.alloc (.cells (bR (List.replicate 31 0)) 5)).heap[wd6.heap.size]? = some (.cells (bR (List.replicate 31 0)) 5 (0, 0)) := World.alloc_heap_new wd6 _
      have hs6_18 : Below w.heap.size w (wd6.alloc (.cells (bR (List.replicate 31 0)) 5)) := Below.alloc hs6 (Below.size hs6) _
      generalize wd6.alloc (.cells (bR (List.replicate 31 0)) 5) = wq6_15 at *
      generalize wd6.heap.size = gq6_16 at *
      refine AnyF.ready (rs := [0, 3]) (by kernel_rfl) (by simp) (ReadyF.op (w2 := wq6_15.alloc (.cells (bR ([2])) 5)) (some 42) (.buildSlice 44 1 #[(0, .const (.int .u8 2))]) rfl (.slice (some ⟨wq6_15.heap.size, 0, none⟩) 1 1) (fun o ho => exec_bld2 ho _) (Below.alloc hs6_18 (Below.size hs6_18) _) ?_ (ReadyF.op (w2 := wq6_15) (some 45) (.convert 44 9 (.tmp 44)) rfl (.string Z31) (fun o ho => exec_convG 44 9 (.tmp 44) ho _ rfl _ _ _ (conv_c6 wq6_15 gq6_16 hq6_17)) (hs6_18) ?_ ReadyF.nil))
      · simp only [Act.put, List.setIfInBounds_toArray, List.set_cons_succ, List.set_cons_zero]
        have hq6_21 : (wq6_15.alloc (.cells (bR ([2])) 5)).heap[wq6_15.heap.size]? = some (.cells (bR ([2])) 5 (0, 0)) := World.alloc_heap_new wq6_15 _
        have hs6_22 : Below w.heap.size w (wq6_15.alloc (.cells (bR ([2])) 5)) := Below.alloc hs6_18 (Below.size hs6_18) _
        have hq6_23 := (Below.heap_alloc wq6_15 (.cells (bR ([2])) 5) gq6_16 (Array.getElem?_eq_some_iff.1 hq6_17).1).trans hq6_17
        generalize wq6_15.alloc (.cells (bR ([2])) 5) = wq6_19 at *
        generalize wq6_15.heap.size = gq6_20 at *
        refine AnyF.ready (rs := [1, 3]) (by kernel_rfl) (by simp) (ReadyF.op (w2 := wq6_19) (some 43) (.convert 44 9 (.tmp 42)) rfl (.string U2) (fun o ho => exec_convG 44 9 (.tmp 42) ho _ rfl _ _ _ (conv_a6 wq6_19 gq6_20 hq6_21)) (hs6_22) ?_ (ReadyF.op (w2 := wq6_19) (some 45) (.convert 44 9 (.tmp 44)) rfl (.string Z31) (fun o ho => exec_convG 44 9 (.tmp 44) ho _ rfl _ _ _ (conv_c6 wq6_19 gq6_16 hq6_23)) (hs6_22) ?_ ReadyF.nil))
        · simp only [Act.put, List.setIfInBounds_toArray, List.set_cons_succ, List.set_cons_zero]
          refine AnyF.ready (rs := [3]) (by kernel_rfl) (by simp) (ReadyF.op (w2 := wq6_19) (some 45) (.convert 44 9 (.tmp 44)) rfl (.string Z31) (fun o ho => exec_convG 44 9 (.tmp 44) ho _ rfl _ _ _ (conv_c6 wq6_19 gq6_16 hq6_23)) (hs6_22) ?_ ReadyF.nil)
          simp only [Act.put, List.setIfInBounds_toArray, List.set_cons_succ, List.set_cons_zero]
          refine tkG 4 (some 46) (.binOp .add 9 (.tmp 43) (.tmp 45) 9) none (.string T3) (fun o ho w2 hw => by obtain ⟨q1, q2⟩ := cat3.out; unfold execOp; rw [ho]; go_simp; omega) (hs6_22) ?_
          simp only [Act.put, List.setIfInBounds_toArray, List.set_cons_succ, List.set_cons_zero]
          refine tkG 5 (some 10) (.assign (.tmp 46)) none (.string T3) (fun o ho w2 hw => by unfold execOp; rw [ho]; go_simp) (hs6_22) ?_
          simp only [Act.put, List.setIfInBounds_toArray, List.set_cons_succ, List.set_cons_zero]
          refine AnyF.done (by kernel_rfl) ?_ _
          exact nrm_intro ⟨_, _, rfl, hs6_22⟩
        · simp only [Act.put, List.setIfInBounds_toArray, List.set_cons_succ, List.set_cons_zero]
          refine AnyF.ready (rs := [1]) (by kernel_rfl) (by simp) (ReadyF.op (w2 := wq6_19) (some 43) (.convert 44 9 (.tmp 42)) rfl (.string U2) (fun o ho => exec_convG 44 9 (.tmp 42) ho _ rfl _ _ _ (conv_a6 wq6_19 gq6_20 hq6_21)) (hs6_22) ?_ ReadyF.nil)
          simp only [Act.put, List.setIfInBounds_toArray, List.set_cons_succ, List.set_cons_zero]
          refine tkG 4 (some 46) (.binOp .add 9 (.tmp 43) (.tmp 45) 9) none (.string T3) (fun o ho w2 hw => by obtain ⟨q1, q2⟩ := cat3.out; unfold execOp; rw [ho]; go_simp; omega) (hs6_22) ?_
          simp only [Act.put, List.setIfInBounds_toArray, List.set_cons_succ, List.set_cons_zero]
          refine tkG 5 (some 10) (.assign (.tmp 46)) none (.string T3) (fun o ho w2 hw => by unfold execOp; rw [ho]; go_simp) (hs6_22) ?_
          simp only [Act.put, List.setIfInBounds_toArray, List.set_cons_succ, List.set_cons_zero]
          refine AnyF.done (by kernel_rfl) ?_ _
          exact nrm_intro ⟨_, _, rfl, hs6_22⟩
      · simp only [Act.put, List.setIfInBounds_toArray, List.set_cons_succ, List.set_cons_zero]
        refine AnyF.ready (rs := [0]) (by kernel_rfl) (by simp) (ReadyF.op (w2 := wq6_15.alloc (.cells (bR ([2])) 5)) (some 42) (.buildSlice 44 1 #[(0, .const (.int .u8 2))]) rfl (.slice (some ⟨wq6_15.heap.size, 0, none⟩) 1 1) (fun o ho => exec_bld2 ho _) (Below.alloc hs6_18 (Below.size hs6_18) _) ?_ ReadyF.nil)
        simp only [Act.put, List.setIfInBounds_toArray, List.set_cons_succ, List.set_cons_zero]
        have hq6_26 : (wq6_15.alloc (.cells (bR ([2])) 5)).heap[wq6_15.heap.size]? = some (.cells (bR ([2])) 5 (0, 0)) := World.alloc_heap_new wq6_15 _
        have hs6_27 : Below w.heap.size w (wq6_15.alloc (.cells (bR ([2])) 5)) := Below.alloc hs6_18 (Below.size hs6_18) _
        have hq6_28 := (Below.heap_alloc wq6_15 (.cells (bR ([2])) 5) gq6_16 (Array.getElem?_eq_some_iff.1 hq6_17).1).trans hq6_17
        generalize wq6_15.alloc (.cells (bR ([2])) 5) = wq6_24 at *
        generalize wq6_15.heap.size = gq6_25 at *
        refine AnyF.ready (rs := [1]) (by kernel_rfl) (by simp) (ReadyF.op (w2 := wq6_24) (some 43) (.convert 44 9 (.tmp 42)) rfl (.string U2) (fun o ho => exec_convG 44 9 (.tmp 42) ho _ rfl _ _ _ (conv_a6 wq6_24 gq6_25 hq6_26)) (hs6_27) ?_ ReadyF.nil)
        simp only [Act.put, List.setIfInBounds_toArray, List.set_cons_succ, List.set_cons_zero]
        refine tkG 4 (some 46) (.binOp .add 9 (.tmp 43) (.tmp 45) 9) none (.string T3) (fun o ho w2 hw => by obtain ⟨q1, q2⟩ := cat3.out; unfold execOp; rw [ho]; go_simp; omega) (hs6_27) ?_
        simp only [Act.put, List.setIfInBounds_toArray, List.set_cons_succ, List.set_cons_zero]
        refine tkG 5 (some 10) (.assign (.tmp 46)) none (.string T3) (fun o ho w2 hw => by unfold execOp; rw [ho]; go_simp) (hs6_27) ?_
        simp only [Act.put, List.setIfInBounds_toArray, List.set_cons_succ, List.set_cons_zero]
        refine AnyF.done (by kernel_rfl) ?_ _
        exact nrm_intro ⟨_, _, rfl, hs6_27⟩
  rintro a' w6 ⟨x42, x44, rfl, hk⟩
  have HBW6 := Lib.hid hk
  clear hk
  go_upto_region 7 with fail
  have gT7 := HT.out.below HBW6.out
  have gG7 := HG.out.below HBW6.out
  go_upto_region 8 with (first
    | (go_at_call 11; refine (F3.out _ gT7 gG7).mono ?_; rintro e v7 ⟨rfl, hb7⟩)
    | (refine wpList_run rfl _ (exec_alloc_agg _ 26 rfl _ (HZ _)) ?_)
    | (refine wpList_run0 rfl (exec_storeT26 _ (.tmp 11) (.tmp 50) rfl v7.heap.size rfl P0 HIP rfl Z 26 (World.alloc_heap_new v7 _) SZ) ?_))
  try simp only [Act.put, List.setIfInBounds_toArray, List.set_cons_succ, List.set_cons_zero]
  obtain ⟨w7, hw7, hbb7⟩ := kept26 v7 Z P0
  have HBW7 := Lib.hid (below_then (below_then HBW6.out hb7) hbb7)
  generalize v7.heap.size = gg7 at *
  rw [hw7]
  clear hb7 hbb7 hw7 gT7 gG7
  refine wp_cut (fun a' W' => ∃ x52 x54, a' = { tmps := #[.int .u8 (n : Int), .string s, undef, undef, .bool false, .slice (some ⟨g, 0, none⟩) 32 32, .pointer (some ⟨gg3, 0, none⟩), .bool false, .pointer (some ⟨gg5, 0, none⟩), .bool false, .string T3, .pointer (some ⟨gg7, 0, none⟩), .bool false, .string T4, undef, undef, undef, undef, .slice (some ⟨g, 0, none⟩) 32 32, .slice (some ⟨g, 0, none⟩) 32 32, .slice (some ⟨g, 0, none⟩) 32 32, .slice (some ⟨g, 0, none⟩) 32 32, .pointer (some ⟨g, 0, none⟩), .int .u8 237, .int .u8 (n : Int), .int .u8 (m : Int), .int .u8 (b.toNat : Int), .pointer (some ⟨g, 0, none⟩), .tuple #[.agg P0, .bool false], .slice (some ⟨g, 0, none⟩) 32 32, .string T1, .tuple #[.agg P0, .bool false], .agg P0, .bool false, .slice (some ⟨g, 0, none⟩) 32 32, .pointer (some ⟨g, 31, none⟩), .tuple #[.agg P0, .bool false], .slice (some ⟨g, 0, none⟩) 32 32, .string T2, .tuple #[.agg P0, .bool false], .agg P0, .bool false, x42, .string U2, x44, .string Z31, .string T3, .tuple #[.agg P0, .bool false], .string T3, .tuple #[.agg P0, .bool false], .agg P0, .bool false, x52, .string U1, x54, .string Z30, .string T4a, .string T4, undef, undef, undef, undef, undef, undef, undef, undef, undef, undef, undef, undef, undef, undef, undef, undef, undef, undef, undef, undef, undef, undef, undef, undef, undef, undef, undef, undef, undef, undef, undef, undef, undef, undef, undef, undef, undef, undef, undef], defers := [] } ∧ Below w.heap.size w W') ?_ ?_
  · refine wp_region_any (by kernel_rfl) ?_
    change wpAny _ _ _ _ _ _ _ (World.drew _)
    have hs8 := HBW7.out.drew
    generalize w7.drew = wd8 at *
    refine any_of_F (S := fun W => Below w.heap.size w W) (f := 1000) _ _ _ _ ?_
    refine AnyF.ready (rs := [0, 2]) (by kernel_rfl) (by simp) (ReadyF.op (w2 := wd8.alloc (.cells (bR ([1])) 5)) (some 52) (.buildSlice 44 1 #[(0, .const (.int .u8 1))]) rfl (.slice (some ⟨wd8.heap.size, 0, none⟩) 1 1) (fun o ho => exec_bld1 ho _) (Below.alloc hs8 (Below.size hs8) _) ?_ (ReadyF.op (w2 := wd8.alloc (.cells (bR (List.replicate 30 0)) 5)) (some 54) (.makeSlice 44 (.const (.int .i64 30)) (.const (.int .i64 30))) rfl (.slice (some ⟨wd8.heap.size, 0, none⟩) 30 30) (fun o ho => exec_mk30 ho _) (Below.alloc hs8 (Below.size hs8) _) ?_ ReadyF.nil))
    · simp only [Act.put, List.setIfInBounds_toArray, List.set_cons_succ, List.set_cons_zero]
      have hq8_3 : (wd8.alloc (.cells (bR ([1])) 5)).heap[wd8.heap.size]? = some (.cells (bR ([1])) 5 (0, 0)) := World.alloc_heap_new wd8 _
      have hs8_4 : Below w.heap.size w (wd8.alloc (.cells (bR ([1])) 5)) := Below.alloc hs8 (Below.size hs8) _
      generalize wd8.alloc (.cells (bR ([1])) 5) = wq8_1 at *
      generalize wd8.heap.size = gq8_2 at *
      refine AnyF.ready (rs := [1, 2]) (by kernel_rfl) (by simp) (ReadyF.op (w2 := wq8_1) (some 53) (.convert 44 9 (.tmp 52)) rfl (.string U1) (fun o ho => exec_convG 44 9 (.tmp 52) ho _ rfl _ _ _ (conv_a8 wq8_1 gq8_2 hq8_3)) (hs8_4) ?_ (ReadyF.op (w2 := wq8_1.alloc (.cells (bR (List.replicate 30 0)) 5)) (some 54) (.makeSlice 44 (.const (.int .i64 30)) (.const (.int .i64 30))) rfl (.slice (some ⟨wq8_1.heap.size, 0, none⟩) 30 30) (fun o ho => exec_mk30 ho _) (Below.alloc hs8_4 (Below.size hs8_4) _) ?_ ReadyF.nil))
      · simp only [Act.put, List.setIfInBounds_toArray, List.set_cons_succ, List.set_cons_zero]
        refine AnyF.ready (rs := [2]) (by kernel_rfl) (by simp) (ReadyF.op (w2 := wq8_1.alloc (.cells (bR (List.replicate 30 0)) 5)) (some 54) (.makeSlice 44 (.const (.int .i64 30)) (.const (.int .i64 30))) rfl (.slice (some ⟨wq8_1.heap.size, 0, none⟩) 30 30) (fun o ho => exec_mk30 ho _) (Below.alloc hs8_4 (Below.size hs8_4) _) ?_ ReadyF.nil)
        simp only [Act.put, List.setIfInBounds_toArray, List.set_cons_succ, List.set_cons_zero]
        have hq8_7 : (wq8_1.alloc (.cells (bR (List.replicate 30 0)) 5)).heap[wq8_1.heap.size]? = some (.cells (bR (List.replicate 30 0)) 5 (0, 0)) := World.alloc_heap_new wq8_1 _
        have hs8_8 : Below w.heap.size w (wq8_1.alloc (.cells (bR (List.replicate 30 0)) 5)) := Below.alloc hs8_4 (Below.size hs8_4) _
        have hq8_9 := (Below.heap_alloc wq8_1 (.cells (bR (List.replicate 30 0)) 5) gq8_2 (Array.getElem?_eq_some_iff.1 hq8_3).1).trans hq8_3
        generalize wq8_1.alloc (.cells (bR (List.replicate 30 0)) 5) = wq8_5 at *
        generalize wq8_1.heap.size = gq8_6 at *
        refine AnyF.ready (rs := [3]) (by kernel_rfl) (by simp) (ReadyF.op (w2 := wq8_5) (some 55) (.convert 44 9 (.tmp 54)) rfl (.string Z30) (fun o ho => exec_convG 44 9 (.tmp 54) ho _ rfl _ _ _ (conv_c8 wq8_5 gq8_6 hq8_7)) (hs8_8) ?_ ReadyF.nil)
        simp only [Act.put, List.setIfInBounds_toArray, List.set_cons_succ, List.set_cons_zero]
        refine tkG 4 (some 56) (.binOp .add 9 (.tmp 53) (.tmp 55) 9) none (.string T4a) (fun o ho w2 hw => by obtain ⟨q1, q2⟩ := cat4a.out; unfold execOp; rw [ho]; go_simp; omega) (hs8_8) ?_
        simp only [Act.put, List.setIfInBounds_toArray, List.set_cons_succ, List.set_cons_zero]
        refine tkG 5 (some 57) (.binOp .add 9 (.tmp 56) (.const (.string { data := #[128] })) 9) none (.string T4) (fun o ho w2 hw => by obtain ⟨q1, q2⟩ := cat4.out; unfold execOp; rw [ho]; go_simp; omega) (hs8_8) ?_
        simp only [Act.put, List.setIfInBounds_toArray, List.set_cons_succ, List.set_cons_zero]
        refine tkG 6 (some 13) (.assign (.tmp 57)) none (.string T4) (fun o ho w2 hw => by unfold execOp; rw [ho]; go_simp) (hs8_8) ?_
        simp only [Act.put, List.setIfInBounds_toArray, List.set_cons_succ, List.set_cons_zero]
        refine AnyF.done (by kernel_rfl) ?_ _
        exact nrm_intro ⟨_, _, rfl, hs8_8⟩
      · simp only [Act.put, List.setIfInBounds_toArray, List.set_cons_succ, List.set_cons_zero]
        have hq8_12 : (wq8_1.alloc (.cells (bR (List.replicate 30 0)) 5)).heap[wq8_1.heap.size]? = some (.cells (bR (List.replicate 30 0)) 5 (0, 0)) := World.alloc_heap_new wq8_1 _
        have hs8_13 : Below w.heap.size w (wq8_1.alloc (.cells (bR (List.replicate 30 0)) 5)) := Below.alloc hs8_4 (Below.size hs8_4) _
        have hq8_14 := (Below.heap_alloc wq8_1 (.cells (bR (List.replicate 30 0)) 5) gq8_2 (Array.getElem?_eq_some_iff.1 hq8_3).1).trans hq8_3
        generalize wq8_1.alloc (.cells (bR (List.replicate 30 0)) 5) = wq8_10 at *
        generalize wq8_1.heap.size = gq8_11 at *
        refine AnyF.ready (rs := [1, 3]) (by kernel_rfl) (by simp) (ReadyF.op (w2 := wq8_10) (some 53) (.convert 44 9 (.tmp 52)) rfl (.string U1) (fun o ho => exec_convG 44 9 (.tmp 52) ho _ rfl _ _ _ (conv_a8 wq8_10 gq8_2 hq8_14)) (hs8_13) ?_ (ReadyF.op (w2 := wq8_10) (some 55) (.convert 44 9 (.tmp 54)) rfl (.string Z30) (fun o ho => exec_convG 44 9 (.tmp 54) ho _ rfl _ _ _ (conv_c8 wq8_10 gq8_11 hq8_12)) (hs8_13) ?_ ReadyF.nil))
        · simp only [Act.put, List.setIfInBounds_toArray, List.set_cons_succ, List.set_cons_zero]
          refine AnyF.ready (rs := [3]) (by kernel_rfl) (by simp) (ReadyF.op (w2 := wq8_10) (some 55) (.convert 44 9 (.tmp 54)) rfl (.string Z30) (fun o ho => exec_convG 44 9 (.tmp 54) ho _ rfl _ _ _ (conv_c8 wq8_10 gq8_11 hq8_12)) (hs8_13) ?_ ReadyF.nil)
          simp only [Act.put, List.setIfInBounds_toArray, List.set_cons_succ, List.set_cons_zero]
          refine tkG 4 (some 56) (.binOp .add 9 (.tmp 53) (.tmp 55) 9) none (.string T4a) (fun o ho w2 hw => by obtain ⟨q1, q2⟩ := cat4a.out; unfold execOp; rw [ho]; go_simp; omega) (hs8_13) ?_
          simp only [Act.put, List.setIfInBounds_toArray, List.set_cons_succ, List.set_cons_zero]
          refine tkG 5 (some 57) (.binOp .add 9 (.tmp 56) (.const (.string { data := #[128] })) 9) none (.string T4) (fun o ho w2 hw => by obtain ⟨q1, q2⟩ := cat4.out; unfold execOp; rw [ho]; go_simp; omega) (hs8_13) ?_
          simp only [Act.put, List.setIfInBounds_toArray, List.set_cons_succ, List.set_cons_zero]
          refine tkG 6 (some 13) (.assign (.tmp 57)) none (.string T4) (fun o ho w2 hw => by unfold execOp; rw [ho]; go_simp) (hs8_13) ?_
          simp only [Act.put, List.setIfInBounds_toArray, List.set_cons_succ, List.set_cons_zero]
          refine AnyF.done (by kernel_rfl) ?_ _
          exact nrm_intro ⟨_, _, rfl, hs8_13⟩
        · simp only [Act.put, List.setIfInBounds_toArray, List.set_cons_succ, List.set_cons_zero]
          refine AnyF.ready (rs := [1]) (by kernel_rfl) (by simp) (ReadyF.op (w2 := wq8_10) (some 53) (.convert 44 9 (.tmp 52)) rfl (.string U1) (fun o ho => exec_convG 44 9 (.tmp 52) ho _ rfl _ _ _ (conv_a8 wq8_10 gq8_2 hq8_14)) (hs8_13) ?_ ReadyF.nil)
          simp only [Act.put, List.setIfInBounds_toArray, List.set_cons_succ, List.set_cons_zero]
          refine tkG 4 (some 56) (.binOp .add 9 (.tmp 53) (.tmp 55) 9) none (.string T4a) (fun o ho w2 hw => by obtain ⟨q1, q2⟩ := cat4a.out; unfold execOp; rw [ho]; go_simp; omega) (hs8_13) ?_
          simp only [Act.put, List.setIfInBounds_toArray, List.set_cons_succ, List.set_cons_zero]
          refine tkG 5 (some 57) (.binOp .add 9 (.tmp 56) (.const (.string { data := #[128] })) 9) none (.string T4) (fun o ho w2 hw => by obtain ⟨q1, q2⟩ := cat4.out; unfold execOp; rw [ho]; go_simp; omega) (hs8_13) ?_
          simp only [Act.put, List.setIfInBounds_toArray, List.set_cons_succ, List.set_cons_zero]
          refine tkG 6 (some 13) (.assign (.tmp 57)) none (.string T4) (fun o ho w2 hw => by unfold execOp; rw [ho]; go_simp) (hs8_13) ?_
          simp only [Act.put, List.setIfInBounds_toArray, List.set_cons_succ, List.set_cons_zero]
          refine AnyF.done (by kernel_rfl) ?_ _
          exact nrm_intro ⟨_, _, rfl, hs8_13⟩
    · simp only [Act.put, List.setIfInBounds_toArray, List.set_cons_succ, List.set_cons_zero]
      have hq8_17 : (wd8.alloc (.cells (bR (List.replicate 30 0)) 5)).heap[wd8.heap.size]? = some (.cells (bR (List.replicate 30 0)) 5 (0, 0)) := World.alloc_heap_new wd8 _
      have hs8_18 : Below w.heap.size w (wd8.alloc (.cells (bR (List.replicate 30 0)) 5)) := Below.alloc hs8 (Below.size hs8) _
      generalize wd8.alloc (.cells (bR (List.replicate 30 0)) 5) = wq8_15 at *
      generalize wd8.heap.size = gq8_16 at *
      refine AnyF.ready (rs := [0, 3]) (by kernel_rfl) (by simp) (ReadyF.op (w2 := wq8_15.alloc (.cells (bR ([1])) 5)) (some 52) (.buildSlice 44 1 #[(0, .const (.int .u8 1))]) rfl (.slice (some ⟨wq8_15.heap.size, 0, none⟩) 1 1) (fun o ho => exec_bld1 ho _) (Below.alloc hs8_18 (Below.size hs8_18) _) ?_ (ReadyF.op (w2 := wq8_15) (some 55) (.convert 44 9 (.tmp 54)) rfl (.string Z30) (fun o ho => exec_convG 44 9 (.tmp 54) ho _ rfl _ _ _ (conv_c8 wq8_15 gq8_16 hq8_17)) (hs8_18) ?_ ReadyF.nil))
      · simp only [Act.put, List.setIfInBounds_toArray, List.set_cons_succ, List.set_cons_zero]
        have hq8_21 : (wq8_15.alloc (.cells (bR ([1])) 5)).heap[wq8_15.heap.size]? = some (.cells (bR ([1])) 5 (0, 0)) := World.alloc_heap_new wq8_15 _
        have hs8_22 : Below w.heap.size w (wq8_15.alloc (.cells (bR ([1])) 5)) := Below.alloc hs8_18 (Below.size hs8_18) _
        have hq8_23 := (Below.heap_alloc wq8_15 (.cells (bR ([1])) 5) gq8_16 (Array.getElem?_eq_some_iff.1 hq8_17).1).trans hq8_17
        generalize wq8_15.alloc (.cells (bR ([1])) 5) = wq8_19 at *
        generalize wq8_15.heap.size = gq8_20 at *
        refine AnyF.ready (rs := [1, 3]) (by kernel_rfl) (by simp) (ReadyF.op (w2 := wq8_19) (some 53) (.convert 44 9 (.tmp 52)) rfl (.string U1) (fun o ho => exec_convG 44 9 (.tmp 52) ho _ rfl _ _ _ (conv_a8 wq8_19 gq8_20 hq8_21)) (hs8_22) ?_ (ReadyF.op (w2 := wq8_19) (some 55) (.convert 44 9 (.tmp 54)) rfl (.string Z30) (fun o ho => exec_convG 44 9 (.tmp 54) ho _ rfl _ _ _ (conv_c8 wq8_19 gq8_16 hq8_23)) (hs8_22) ?_ ReadyF.nil))
        · simp only [Act.put, List.setIfInBounds_toArray, List.set_cons_succ, List.set_cons_zero]
          refine AnyF.ready (rs := [3]) (by kernel_rfl) (by simp) (ReadyF.op (w2 := wq8_19) (some 55) (.convert 44 9 (.tmp 54)) rfl (.string Z30) (fun o ho => exec_convG 44 9 (.tmp 54) ho _ rfl _ _ _ (conv_c8 wq8_19 gq8_16 hq8_23)) (hs8_22) ?_ ReadyF.nil)
          simp only [Act.put, List.setIfInBounds_toArray, List.set_cons_succ, List.set_cons_zero]
          refine tkG 4 (some 56) (.binOp .add 9 (.tmp 53) (.tmp 55) 9) none (.string T4a) (fun o ho w2 hw => by obtain ⟨q1, q2⟩ := cat4a.out; unfold execOp; rw [ho]; go_simp; omega) (hs8_22) ?_
          simp only [Act.put, List.setIfInBounds_toArray, List.set_cons_succ, List.set_cons_zero]
          refine tkG 5 (some 57) (.binOp .add 9 (.tmp 56) (.const (.string { data := #[128] })) 9) none (.string T4) (fun o ho w2 hw => by obtain ⟨q1, q2⟩ := cat4.out; unfold execOp; rw [ho]; go_simp; omega) (hs8_22) ?_
          simp only [Act.put, List.setIfInBounds_toArray, List.set_cons_succ, List.set_cons_zero]
          refine tkG 6 (some 13) (.assign (.tmp 57)) none (.string T4) (fun o ho w2 hw => by unfold execOp; rw [ho]; go_simp) (hs8_22) ?_
          simp only [Act.put, List.setIfInBounds_toArray, List.set_cons_succ, List.set_cons_zero]
          refine AnyF.done (by kernel_rfl) ?_ _
          exact nrm_intro ⟨_, _, rfl, hs8_22⟩
        · simp only [Act.put, List.setIfInBounds_toArray, List.set_cons_succ, List.set_cons_zero]
          refine AnyF.ready (rs := [1]) (by kernel_rfl) (by simp) (ReadyF.op (w2 := wq8_19) (some 53) (.convert 44 9 (.tmp 52)) rfl (.string U1) (fun o ho => exec_convG 44 9 (.tmp 52) ho _ rfl _ _ _ (conv_a8 wq8_19 gq8_20 hq8_21)) (hs8_22) ?_ ReadyF.nil)
          simp only [Act.put, List.setIfInBounds_toArray, List.set_cons_succ, List.set_cons_zero]
          refine tkG 4 (some 56) (.binOp .add 9 (.tmp 53) (.tmp 55) 9) none (.string T4a) (fun o ho w2 hw => by obtain ⟨q1, q2⟩ := cat4a.out; unfold execOp; rw [ho]; go_simp; omega) (hs8_22) ?_
          simp only [Act.put, List.setIfInBounds_toArray, List.set_cons_succ, List.set_cons_zero]
          refine tkG 5 (some 57) (.binOp .add 9 (.tmp 56) (.const (.string { data := #[128] })) 9) none (.string T4) (fun o ho w2 hw => by obtain ⟨q1, q2⟩ := cat4.out; unfold execOp; rw [ho]; go_simp; omega) (hs8_22) ?_
          simp only [Act.put, List.setIfInBounds_toArray, List.set_cons_succ, List.set_cons_zero]
          refine tkG 6 (some 13) (.assign (.tmp 57)) none (.string T4) (fun o ho w2 hw => by unfold execOp; rw [ho]; go_simp) (hs8_22) ?_
          simp only [Act.put, List.setIfInBounds_toArray, List.set_cons_succ, List.set_cons_zero]
          refine AnyF.done (by kernel_rfl) ?_ _
          exact nrm_intro ⟨_, _, rfl, hs8_22⟩
      · simp only [Act.put, List.setIfInBounds_toArray, List.set_cons_succ, List.set_cons_zero]
        refine AnyF.ready (rs := [0]) (by kernel_rfl) (by simp) (ReadyF.op (w2 := wq8_15.alloc (.cells (bR ([1])) 5)) (some 52) (.buildSlice 44 1 #[(0, .const (.int .u8 1))]) rfl (.slice (some ⟨wq8_15.heap.size, 0, none⟩) 1 1) (fun o ho => exec_bld1 ho _) (Below.alloc hs8_18 (Below.size hs8_18) _) ?_ ReadyF.nil)
        simp only [Act.put, List.setIfInBounds_toArray, List.set_cons_succ, List.set_cons_zero]
        have hq8_26 : (wq8_15.alloc (.cells (bR ([1])) 5)).heap[wq8_15.heap.size]? = some (.cells (bR ([1])) 5 (0, 0)) := World.alloc_heap_new wq8_15 _
        have hs8_27 : Below w.heap.size w (wq8_15.alloc (.cells (bR ([1])) 5)) := Below.alloc hs8_18 (Below.size hs8_18) _
        have hq8_28 := (Below.heap_alloc wq8_15 (.cells (bR ([1])) 5) gq8_16 (Array.getElem?_eq_some_iff.1 hq8_17).1).trans hq8_17
        generalize wq8_15.alloc (.cells (bR ([1])) 5) = wq8_24 at *
        generalize wq8_15.heap.size = gq8_25 at *
        refine AnyF.ready (rs := [1]) (by kernel_rfl) (by simp) (ReadyF.op (w2 := wq8_24) (some 53) (.convert 44 9 (.tmp 52)) rfl (.string U1) (fun o ho => exec_convG 44 9 (.tmp 52) ho _ rfl _ _ _ (conv_a8 wq8_24 gq8_25 hq8_26)) (hs8_27) ?_ ReadyF.nil)
        simp only [Act.put, List.setIfInBounds_toArray, List.set_cons_succ, List.set_cons_zero]
        refine tkG 4 (some 56) (.binOp .add 9 (.tmp 53) (.tmp 55) 9) none (.string T4a) (fun o ho w2 hw => by obtain ⟨q1, q2⟩ := cat4a.out; unfold execOp; rw [ho]; go_simp; omega) (hs8_27) ?_
        simp only [Act.put, List.setIfInBounds_toArray, List.set_cons_succ, List.set_cons_zero]
        refine tkG 5 (some 57) (.binOp .add 9 (.tmp 56) (.const (.string { data := #[128] })) 9) none (.string T4) (fun o ho w2 hw => by obtain ⟨q1, q2⟩ := cat4.out; unfold execOp; rw [ho]; go_simp; omega) (hs8_27) ?_
        simp only [Act.put, List.setIfInBounds_toArray, List.set_cons_succ, List.set_cons_zero]
        refine tkG 6 (some 13) (.assign (.tmp 57)) none (.string T4) (fun o ho w2 hw => by unfold execOp; rw [ho]; go_simp) (hs8_27) ?_
        simp only [Act.put, List.setIfInBounds_toArray, List.set_cons_succ, List.set_cons_zero]
        refine AnyF.done (by kernel_rfl) ?_ _
        exact nrm_intro ⟨_, _, rfl, hs8_27⟩
  rintro a' w8 ⟨x52, x54, rfl, hk⟩
  have HBW8 := Lib.hid hk
  clear hk
  go_upto_region 9 with fail
  have gT9 := HT.out.below HBW8.out
  have gG9 := HG.out.below HBW8.out
  go_upto_region 10 with (first
    | (go_at_call 11; refine (F4.out _ gT9 gG9).mono ?_; rintro e v9 ⟨rfl, hb9⟩)
    | (refine wpList_run rfl _ (exec_alloc_agg _ 26 rfl _ (HZ _)) ?_)
    | (refine wpList_run0 rfl (exec_storeT26 _ (.tmp 14) (.tmp 61) rfl v9.heap.size rfl P0 HIP rfl Z 26 (World.alloc_heap_new v9 _) SZ) ?_))
  try simp only [Act.put, List.setIfInBounds_toArray, List.set_cons_succ, List.set_cons_zero]
  obtain ⟨w9, hw9, hbb9⟩ := kept26 v9 Z P0
  have HBW9 := Lib.hid (below_then (below_then HBW8.out hb9) hbb9)
  generalize v9.heap.size = gg9 at *
  rw [hw9]
  clear hb9 hbb9 hw9 gT9 gG9
  have F5 := Lib.hid (HF.out ⟨#[]⟩ (no_size _ (by decide)))
  have HAW := Lib.hid awake_any
  clear cat3 cat4a cat4 conv_a6 conv_c6 conv_a8 conv_c8 F1 F2 F3 F4
  by_cases h32 : s.size = 32
  · have i1 : (s.size : Int) = 32 := by omega
    have gT12 := HT.out.below HBW9.out
    have gG12 := HG.out.below HBW9.out
    go_upto_region 13 with (first
      | (go_at_call 11; refine (F5.out _ gT12 gG12).mono ?_; rintro e v12 ⟨rfl, hb12⟩)
      | (refine wpList_run rfl _ (exec_alloc_agg _ 26 rfl _ (HZ _)) ?_)
      | (refine wpList_run0 rfl (exec_storeT26 _ (.tmp 16) (.tmp 74) rfl v12.heap.size rfl P0 HIP rfl Z 26 (World.alloc_heap_new v12 _) SZ) ?_))
    try simp only [Act.put, List.setIfInBounds_toArray, List.set_cons_succ, List.set_cons_zero]
    obtain ⟨w12, hw12, hbb12⟩ := kept26 v12 Z P0
    have HBW12 := Lib.hid (below_then (below_then HBW9.out hb12) hbb12)
    generalize v12.heap.size = gg12 at *
    rw [hw12]
    clear hb12 hbb12 hw12 gT12 gG12
    have gG13 := HG.out.below HBW12.out
    go_wp2_with (go_at_call 10; refine (HAW.out _ gG13).mono ?_; rintro e w14 ⟨rfl, hb14⟩)
    go_ret
    exact ⟨rfl, below_then HBW12.out hb14⟩
  · have i1 : ¬ (s.size : Int) = 32 := by omega
    by_cases h100 : 100 < s.size
    · have i2 : (s.size : Int) > 100 := by omega
      have gT12 := HT.out.below HBW9.out
      have gG12 := HG.out.below HBW9.out
      go_upto_region 13 with (first
        | (go_at_call 11; refine (F5.out _ gT12 gG12).mono ?_; rintro e v12 ⟨rfl, hb12⟩)
        | (refine wpList_run rfl _ (exec_alloc_agg _ 26 rfl _ (HZ _)) ?_)
        | (refine wpList_run0 rfl (exec_storeT26 _ (.tmp 16) (.tmp 74) rfl v12.heap.size rfl P0 HIP rfl Z 26 (World.alloc_heap_new v12 _) SZ) ?_))
      try simp only [Act.put, List.setIfInBounds_toArray, List.set_cons_succ, List.set_cons_zero]
      obtain ⟨w12, hw12, hbb12⟩ := kept26 v12 Z P0
      have HBW12 := Lib.hid (below_then (below_then HBW9.out hb12) hbb12)
      generalize v12.heap.size = gg12 at *
      rw [hw12]
      clear hb12 hbb12 hw12 gT12 gG12
      have gG13 := HG.out.below HBW12.out
      go_wp2_with (go_at_call 10; refine (HAW.out _ gG13).mono ?_; rintro e w14 ⟨rfl, hb14⟩)
      go_ret
      exact ⟨rfl, below_then HBW12.out hb14⟩
    · have i2 : ¬ (s.size : Int) > 100 := by omega
      have F6 := Lib.hid (HF.out s (no_size s h32))
      have gT12 := HT.out.below HBW9.out
      have gG12 := HG.out.below HBW9.out
      go_upto_region 13 with (first
        | (go_at_call 11; refine (F6.out _ gT12 gG12).mono ?_; rintro e v12 ⟨rfl, hb12⟩)
        | (refine wpList_run rfl _ (exec_alloc_agg _ 26 rfl _ (HZ _)) ?_)
        | (refine wpList_run0 rfl (exec_storeT26 _ (.tmp 16) (.tmp 74) rfl v12.heap.size rfl P0 HIP rfl Z 26 (World.alloc_heap_new v12 _) SZ) ?_))
      try simp only [Act.put, List.setIfInBounds_toArray, List.set_cons_succ, List.set_cons_zero]
      obtain ⟨w12, hw12, hbb12⟩ := kept26 v12 Z P0
      have HBW12 := Lib.hid (below_then (below_then HBW9.out hb12) hbb12)
      generalize v12.heap.size = gg12 at *
      rw [hw12]
      clear hb12 hbb12 hw12 gT12 gG12
      have gG13 := HG.out.below HBW12.out
      go_wp2_with (go_at_call 10; refine (HAW.out _ gG13).mono ?_; rintro e w14 ⟨rfl, hb14⟩)
      go_ret
      exact ⟨rfl, below_then HBW12.out hb14⟩
end Go.Proofs.YtgbliacncahooaaDoor
