/- sum and Less of the document's package, over numbers of four words of 64 bits. -/
import Derived.Test.YtnajglmabgofeaaAdd
import Derived.Deep.CutBlock
import Derived.Deep.DeepCutAuto
namespace Go.Proofs.Ytnajglmabgofeaa
open Go.RowKit
set_option linter.unusedVariables false
/-- Block g is just these cells. -/
def RowL (w : World) (g : Nat) (t : TypeId) (cs : List Value) : Prop := w.heap[g]? = some (.cells cs.toArray t (0, 0))
theorem RowL.seg {w : World} {g : Nat} {t : TypeId} {cs : List Value} (h : RowL w g t cs) : ∀ j v, cs[j]? = some v → w.cell? ⟨g, 0 + j, none⟩ = some v := by
  intro j v hv
  rw [cell_of_row _ _ _ _ _ _ h, Nat.zero_add, List.getElem?_toArray, hv]
theorem RowL.lt {w : World} {g : Nat} {t : TypeId} {cs : List Value} (h : RowL w g t cs) : g < w.heap.size := lt_of_block h
theorem RowL.new (w : World) (t : TypeId) (cs : List Value) : RowL (w.alloc (.cells cs.toArray t)) w.heap.size t cs := heap_alloc_new w _
theorem RowL.alloc {w : World} {g : Nat} {t : TypeId} {cs : List Value} (h : RowL w g t cs) (o : Obj) : RowL (w.alloc o) g t cs := by
  unfold RowL; rw [Below.heap_alloc _ _ _ h.lt]; exact h
theorem RowL.below {w w' : World} {g : Nat} {t : TypeId} {cs : List Value} (h : RowL w g t cs) (hb : Below w.heap.size w w') : RowL w' g t cs := by
  unfold RowL; rw [hb.block g h.lt]; exact h
theorem RowL.setRow {w : World} {g : Nat} {t : TypeId} {cs : List Value} (h : RowL w g t cs) (cs2 : List Value) : RowL (w.setRow g cs2.toArray) g t cs2 := setRow_heap _ _ _ _ _ _ h
theorem RowL.setRow_ne {w : World} {g k : Nat} {t : TypeId} {cs : List Value} (h : RowL w g t cs) (hk : g ≠ k) (cs2 : Array Value) : RowL (w.setRow k cs2) g t cs := by
  unfold RowL; rw [setRow_other _ _ _ _ hk]; exact h
theorem RowL.four (w : World) (t1 t2 t3 t4 : TypeId) (a b c d : List Value) : RowL ((((w.alloc (.cells a.toArray t1)).alloc (.cells b.toArray t2)).alloc (.cells c.toArray t3)).alloc (.cells d.toArray t4)) w.heap.size t1 a ∧
    RowL ((((w.alloc (.cells a.toArray t1)).alloc (.cells b.toArray t2)).alloc (.cells c.toArray t3)).alloc (.cells d.toArray t4)) (w.heap.size + 1) t2 b ∧
    RowL ((((w.alloc (.cells a.toArray t1)).alloc (.cells b.toArray t2)).alloc (.cells c.toArray t3)).alloc (.cells d.toArray t4)) (w.heap.size + 1 + 1) t3 c ∧
    RowL ((((w.alloc (.cells a.toArray t1)).alloc (.cells b.toArray t2)).alloc (.cells c.toArray t3)).alloc (.cells d.toArray t4)) (w.heap.size + 1 + 1 + 1) t4 d ∧
    Below w.heap.size w ((((w.alloc (.cells a.toArray t1)).alloc (.cells b.toArray t2)).alloc (.cells c.toArray t3)).alloc (.cells d.toArray t4)) := by
  refine ⟨(((RowL.new w t1 a).alloc _).alloc _).alloc _, ?_, ?_, ?_, ((((Below.refl _ w).alloc (Nat.le_refl _) _).alloc (by simp) _).alloc (by simp <;> omega) _).alloc (by simp <;> omega) _⟩
  · have h := RowL.new (w.alloc (.cells a.toArray t1)) t2 b
    rw [World.size_alloc] at h
    exact (h.alloc _).alloc _
  · have h := RowL.new ((w.alloc (.cells a.toArray t1)).alloc (.cells b.toArray t2)) t3 c
    rw [World.size_alloc, World.size_alloc] at h
    exact h.alloc _
  · have h := RowL.new (((w.alloc (.cells a.toArray t1)).alloc (.cells b.toArray t2)).alloc (.cells c.toArray t3)) t4 d
    rw [World.size_alloc, World.size_alloc, World.size_alloc] at h
    exact h
theorem num_size (x : N4) : (Try.prog.info? 40).map (·.size) = some (rowOf .u64 4 (at4 x)).length := size47 _
set_option maxRecDepth 100000 in
set_option maxHeartbeats 1000000 in
theorem sum3_any (x y z : N4) (hx : x.ok) (hy : y.ok) (hz : z.ok) (w : World) :
    Calls Try.prog 28 #[.agg (num x), .agg (num y), .agg (num z)] w fun e w' => e = .returned (.agg (num (sumL x y z))) ∧ Below w.heap.size w w' := by
  obtain ⟨cx, hcx⟩ : ∃ cx, Hid (cx = rowOf .u64 4 (at4 x)) := ⟨_, Lib.hid rfl⟩
  obtain ⟨cy, hcy⟩ : ∃ cy, Hid (cy = rowOf .u64 4 (at4 y)) := ⟨_, Lib.hid rfl⟩
  obtain ⟨cz, hcz⟩ : ∃ cz, Hid (cz = rowOf .u64 4 (at4 z)) := ⟨_, Lib.hid rfl⟩
  have HA1 := Lib.hid (add_any x y hx hy)
  have HA2 := Lib.hid (add_any (addL x y) z (addL_ok x y) hz)
  unfold num at HA1 HA2 ⊢
  rw [← hcx.out, ← hcy.out] at HA1
  rw [← hcz.out] at HA2
  rw [← hcx.out, ← hcy.out, ← hcz.out]
  have sx : Hid ((Try.prog.info? 40).map (·.size) = some cx.length) := by unfold Hid; rw [hcx.out]; exact size47 _
  have sy : Hid ((Try.prog.info? 40).map (·.size) = some cy.length) := by unfold Hid; rw [hcy.out]; exact size47 _
  have sz : Hid ((Try.prog.info? 40).map (·.size) = some cz.length) := by unfold Hid; rw [hcz.out]; exact size47 _
  obtain ⟨r, hr⟩ : ∃ r, Hid (r = rowOf .u64 4 (at4 (addL x y))) := ⟨_, Lib.hid rfl⟩
  obtain ⟨q, hq⟩ : ∃ q, Hid (q = rowOf .u64 4 (at4 (sumL x y z))) := ⟨_, Lib.hid rfl⟩
  rw [show addL (addL x y) z = sumL x y z from rfl, ← hq.out, ← hr.out] at HA2
  rw [← hr.out] at HA1
  rw [← hq.out]
  have sr : Hid ((Try.prog.info? 40).map (·.size) = some r.length) := by unfold Hid; rw [hr.out]; exact size47 _
  have sq : Hid ((Try.prog.info? 40).map (·.size) = some q.length) := by unfold Hid; rw [hq.out]; exact size47 _
  have oner : Hid (∀ v ∈ r, v.oneCell' = true) := by unfold Hid; rw [hr.out]; exact rowOf_one _ _ _
  have oneq : Hid (∀ v ∈ q, v.oneCell' = true) := by unfold Hid; rw [hq.out]; exact rowOf_one _ _ _
  have fitr : Hid ((rowOf .u64 4 (fun _ => 0)).toArray.size = r.length) := by unfold Hid; rw [hr.out, rowOf_length, rowOf_size]
  have fitq : Hid ((rowOf .u64 4 (fun _ => 0)).toArray.size = q.length) := by unfold Hid; rw [hq.out, rowOf_length, rowOf_size]
  obtain ⟨z4, hz4⟩ : ∃ z4 : List Value, Hid (z4 = rowOf .u64 4 (fun _ => 0)) := ⟨_, Lib.hid rfl⟩
  have hz47 : Hid (∀ w, (zeroValue 40).run Try.prog w = .ok (.agg z4.toArray) w) := by unfold Hid; rw [hz4.out]; exact zero47
  rw [← hz4.out] at fitr fitq
  clear hx hy hz hcx hcy hcz hr hq hz4
  go_enter Try.func28, Try.ntmps28
  go_upto_region 1 with (refine wpList_run rfl _ (exec_alloc_agg _ 40 rfl _ (hz47.out _)) ?_)
  have hrows := RowL.four w 40 40 40 40 cx cy cz z4
  obtain ⟨w4, hw4⟩ : ∃ w4, w4 = (((w.alloc (.cells cx.toArray 40)).alloc (.cells cy.toArray 40)).alloc (.cells cz.toArray 40)).alloc (.cells z4.toArray 40) := ⟨_, rfl⟩
  rw [← hw4] at hrows ⊢
  obtain ⟨h0, h1, h2, h3, hb4⟩ := hrows
  have R0 := Lib.hid h0
  have R1 := Lib.hid h1
  have R2 := Lib.hid h2
  have R3 := Lib.hid h3
  have B4 := Lib.hid hb4
  clear h0 h1 h2 h3 hb4 hw4
  go_wp2_with (first | (refine wpList_load_seg rfl 40 (.tmp 3) rfl w.heap.size 0 rfl cx _ R0.out.seg Try.underlying40 rfl sx.out ?_) | (refine wpList_load_seg rfl 40 (.tmp 4) rfl (w.heap.size + 1) 0 rfl cy _ R1.out.seg Try.underlying40 rfl sy.out ?_))
  refine (HA1.out _).mono ?_
  rintro e w5 ⟨rfl, hb5⟩
  have R2' := Lib.hid ((R2.out.below hb5).alloc (.cells r.toArray 40))
  have R3' := Lib.hid ((R3.out.below hb5).alloc (.cells r.toArray 40))
  have RN := Lib.hid (RowL.new w5 40 r)
  have B5 := Lib.hid ((B4.out.trans (hb5.mono B4.out.size)).alloc (B4.out.trans (hb5.mono B4.out.size)).size (.cells r.toArray 40))
  clear hb5 R0 R1 R2 R3 B4 HA1
  go_wp2_with (first | (refine wpList_run rfl _ (exec_alloc_agg _ 40 rfl _ (hz47.out _)) ?_) | (refine wpList_run0 rfl (exec_store_new w5 40 (.tmp 7) (.tmp 15) rfl _ 40 rfl r rfl fitr.out oner.out sr.out) ?_) | (refine wpList_load_seg rfl 40 (.tmp 7) rfl w5.heap.size 0 rfl r _ RN.out.seg Try.underlying40 rfl sr.out ?_) | (refine wpList_load_seg rfl 40 (.tmp 5) rfl (w.heap.size + 1 + 1) 0 rfl cz _ R2'.out.seg Try.underlying40 rfl sz.out ?_))
  refine (HA2.out _).mono ?_
  rintro e w6 ⟨rfl, hb6⟩
  have R3'' := Lib.hid ((R3'.out.below hb6).alloc (.cells q.toArray 40))
  have RQ := Lib.hid (RowL.new w6 40 q)
  have B6 := Lib.hid ((B5.out.trans (hb6.mono B5.out.size)).alloc (B5.out.trans (hb6.mono B5.out.size)).size (.cells q.toArray 40))
  clear hb6 R2' R3' RN B5 HA2
  go_wp2_with (first | (refine wpList_run rfl _ (exec_alloc_agg _ 40 rfl _ (hz47.out _)) ?_) | (refine wpList_run0 rfl (exec_store_new w6 40 (.tmp 9) (.tmp 21) rfl _ 40 rfl q rfl fitq.out oneq.out sq.out) ?_) | (refine wpList_load_seg rfl 40 (.tmp 9) rfl w6.heap.size 0 rfl q _ RQ.out.seg Try.underlying40 rfl sq.out ?_) | (refine wpList_store_seg rfl 40 (.tmp 6) (.tmp 23) rfl (w.heap.size + 1 + 1 + 1) 0 rfl q rfl _ 40 R3''.out (by rw [Nat.zero_add, fitq.out]; exact Nat.le_refl _) oneq.out sq.out ?_))
  rw [splice_all _ _ fitq.out]
  have hld := run_loadVar_seg (P := Try.prog) ((w6.alloc (.cells q.toArray 40)).setRow (w.heap.size + 1 + 1 + 1) q.toArray) 40 (w.heap.size + 1 + 1 + 1) 0 q _ (R3''.out.setRow q).seg Try.underlying40 rfl sq.out
  have hbel : Below w.heap.size w ((w6.alloc (.cells q.toArray 40)).setRow (w.heap.size + 1 + 1 + 1) q.toArray) := B6.out.trans ⟨rfl, rfl, rfl, by simp, fun k hk => setRow_other _ _ _ _ (by omega)⟩
  generalize (w6.alloc (.cells q.toArray 40)).setRow (w.heap.size + 1 + 1 + 1) q.toArray = W2 at *
  exact bodyPost_ret (v := .agg q.toArray) (results_cell rfl _ _ _ ⟨w.heap.size + 1 + 1 + 1, 0, none⟩ rfl _ hld) rfl ⟨rfl, hbel⟩
theorem sumL_ok (x y z : N4) : (sumL x y z).ok := addL_ok _ _

def lessTo (a b : Nat → Nat) : Nat → Bool
  | 0 => false
  | k + 1 => if a k = b k then lessTo a b k else decide (a k < b k)
set_option maxRecDepth 100000 in
set_option maxHeartbeats 1000000 in
theorem less_walk (a b : Nat → Nat) (w : World) :
    Calls Try.prog 31 #[.agg (rowOf .u64 4 a).toArray, .agg (rowOf .u64 4 b).toArray] w fun e w' => e = .returned (.bool (lessTo a b 4)) ∧ Below w.heap.size w w' := by
  have h0 := (Row.new w 40 .u64 4 a).alloc (.cells (rowOf .u64 4 b).toArray 40)
  have h1 := Row.new (w.alloc (.cells (rowOf .u64 4 a).toArray 40)) 40 .u64 4 b
  rw [World.size_alloc] at h1
  have hb : Below w.heap.size w ((w.alloc (.cells (rowOf .u64 4 a).toArray 40)).alloc (.cells (rowOf .u64 4 b).toArray 40)) := ((Below.refl _ w).alloc (Nat.le_refl _) _).alloc (by simp) _
  obtain ⟨ra, hra⟩ : ∃ ra, Hid (ra = (rowOf .u64 4 a).toArray) := ⟨_, Lib.hid rfl⟩
  obtain ⟨rb, hrb⟩ : ∃ rb, Hid (rb = (rowOf .u64 4 b).toArray) := ⟨_, Lib.hid rfl⟩
  rw [← hra.out, ← hrb.out] at h0 h1 hb ⊢
  have R0 := Lib.hid h0
  have R1 := Lib.hid h1
  have HB := Lib.hid hb
  clear h0 h1 hb
  obtain ⟨out, hout⟩ : ∃ out, Hid (out = lessTo a b 4) := ⟨_, Lib.hid rfl⟩
  rw [← hout.out]
  go_enter Try.func31, Try.ntmps31
  go_wp2
  obtain ⟨w2, hw2⟩ : ∃ w2, w2 = (w.alloc (.cells ra 40)).alloc (.cells rb 40) := ⟨_, rfl⟩
  rw [← hw2] at R0 R1 HB ⊢
  clear hw2
  go_loopw [5] (fun i wr => ∃ k : Nat, k ≤ 4 ∧ i = .int .i64 ((k : Int) - 1) ∧ lessTo a b k = out ∧ Row wr w.heap.size 40 .u64 4 a ∧ Row wr (w.heap.size + 1) 40 .u64 4 b ∧ Below w.heap.size w wr) (fun i _ => (1 + intOf i).toNat)
  case atStart => exact ⟨4, by omega, rfl, hout.out.symm, R0.out, R1.out, HB.out⟩
  case round =>
    clear R0 R1 HB
    obtain ⟨k, hk, rfl, hl, h0, h1, hbl⟩ := hrel
    have R0 := Lib.hid h0
    have R1 := Lib.hid h1
    have HB := Lib.hid hbl
    have HL := Lib.hid hl
    clear h0 h1 hbl hl
    cases k with
    | zero =>
      have ho : out = false := by rw [← HL.out]; rfl
      subst ho
      go_wp2
      go_ret
      exact ⟨rfl, HB.out⟩
    | succ k =>
      have c0 : wr.cell? ⟨w.heap.size, k, none⟩ = some (.int .u64 (a k)) := R0.out.cell k (by omega)
      have c1 : wr.cell? ⟨w.heap.size + 1, k, none⟩ = some (.int .u64 (b k)) := R1.out.cell k (by omega)
      have hk4 : (k : Int) < 4 := by omega
      have e1 : (((k + 1 : Nat) : Int) - 1) = (k : Int) := by omega
      rw [e1]
      by_cases he : a k = b k
      · have HL2 : Hid (lessTo a b k = out) := by unfold Hid; rw [← HL.out]; show _ = (if a k = b k then lessTo a b k else decide (a k < b k)); rw [if_pos he]
        have d1 : ((a k : Int) != (b k : Int)) = false := by rw [he]; simp
        generalize a k = x at *
        generalize b k = y at *
        clear he HL
        go_wp2
        go_quiet (fail)
        go_wp2
        go_roundw
        case rel => exact ⟨k, by omega, rfl, HL2.out, R0.out, R1.out, Below.drewN' HB.out _⟩
        case measure => simp [intOf]; omega
      · have HL2 : Hid (decide (a k < b k) = out) := by
          unfold Hid; rw [← HL.out]
          show _ = (if a k = b k then lessTo a b k else decide (a k < b k)); rw [if_neg he]
        have d1 : ((a k : Int) != (b k : Int)) = true := by rw [bne_iff_ne]; omega
        generalize a k = x at *
        generalize b k = y at *
        clear he HL
        go_wp2
        go_quiet (fail)
        go_wp2
        go_quiet (fail)
        go_wp2
        go_ret
        exact ⟨by rw [← HL2.out]; rfl, Below.drewN' (Below.drewN' HB.out _) _⟩
theorem less_eq (x y : N4) : lessTo (at4 x) (at4 y) 4 = lessL x y := by
  unfold lessL
  show (if x.d = y.d then (if x.c = y.c then (if x.b = y.b then (if x.a = y.a then false else decide (x.a < y.a)) else decide (x.b < y.b)) else decide (x.c < y.c)) else decide (x.d < y.d)) = _
  by_cases h : x.a = y.a
  · rw [if_pos h, show decide (x.a < y.a) = false by simp; omega]
  · rw [if_neg h]
theorem less_any (x y : N4) (w : World) :
    Calls Try.prog 31 #[.agg (num x), .agg (num y)] w fun e w' => e = .returned (.bool (lessL x y)) ∧ Below w.heap.size w w' := by
  rw [← less_eq]
  exact less_walk (at4 x) (at4 y) w
end Go.Proofs.Ytnajglmabgofeaa
