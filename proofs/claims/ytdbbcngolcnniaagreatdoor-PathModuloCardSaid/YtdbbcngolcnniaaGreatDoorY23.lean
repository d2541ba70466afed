/- Several texts, one behind the other; each says by itself what it proves, and on what conditions. -/
import Derived.Test.YtdbbcngolcnniaaGreatDoorY22
import Derived.Deep.CutBlock
import Derived.Deep.DeepCutAuto
import Derived.BigRegion
import Derived.IntWalk
import Derived.Laws.Bits64b
import Derived.OrdersHeld
import Derived.Still
import Derived.StillTail
/- AddNum of the document's package: numbers of four words added. No condition but that the words have 64 bits. -/
namespace Go.Proofs.YtdbbcngolcnniaaGreatDoor.S3
set_option linter.unusedSimpArgs false
open Go.RowKit
set_option linter.unusedVariables false
def N4.ok (x : N4) : Prop := x.a < 18446744073709551616 ∧ x.b < 18446744073709551616 ∧ x.c < 18446744073709551616 ∧ x.d < 18446744073709551616
theorem at4_lt {x : N4} (h : x.ok) (j : Nat) : at4 x j < 18446744073709551616 := by
 obtain ⟨h1, h2, h3, h4⟩ := h
 unfold at4
 split <;> assumption
def num (x : N4) : Array Value := (rowOf .u64 4 (at4 x)).toArray
theorem zero47 (w : World) : (zeroValue 75).run Tryz.prog w = .ok (.agg (rowOf .u64 4 (fun _ => 0)).toArray) w := by kernel_rfl
theorem size47 (f : Nat → Nat) : (Tryz.prog.info? 75).map (·.size) = some (rowOf .u64 4 f).length := by rw [rowOf_length]; kernel_rfl
theorem results_two {fn : Func} {a b : Tmp} {t : TypeId} (h : fn.results = #[.cell a t, .tmp b]) (tmps : Array Value) (P : Program) (w : World) (ad : Addr) (ha : tmps.getD a undef = .pointer (some ad)) (v : Value)
  (hl : (loadVar t ad).run P w = .ok v w) : (results fn tmps).run P w = .ok (.tuple #[v, tmps.getD b undef]) w := by
 have ha2 : tmps[a]?.getD undef = .pointer (some ad) := by rw [← Array.getD_eq_getD_getElem?]; exact ha
 unfold results
 rw [h]
 simp [Array.mapM_eq_mapM_toList, ha2, asAddr, hl]
def cA (a b : Nat → Nat) : Nat → Nat
 | 0 => 0
 | k + 1 => (a k + b k + cA a b k) / 18446744073709551616
def tA (a b : Nat → Nat) (k : Nat) : Nat := (a k + b k + cA a b k) % 18446744073709551616
def tTo (a b : Nat → Nat) (k j : Nat) : Nat := if j < k then tA a b j else 0
theorem cA_le (a b : Nat → Nat) (ha : ∀ j, a j < 18446744073709551616) (hb : ∀ j, b j < 18446744073709551616) : ∀ k, cA a b k ≤ 1
 | 0 => by unfold cA; omega
 | k + 1 => by
  have h1 := ha k
  have h2 := hb k
  have h3 := cA_le a b ha hb k
  unfold cA
  omega
theorem wrap64_add (x y : Nat) : IntKind.u64.wrap ((x : Int) + (y : Int)) = (((x + y) % 18446744073709551616 : Nat) : Int) := by
 have h : IntKind.u64.wrap ((x : Int) + (y : Int)) = ((x : Int) + (y : Int)) % 18446744073709551616 := by simp [IntKind.wrap, IntKind.bits, IntKind.signed]
 rw [h]; omega
theorem carry_of (x y c : Nat) (hx : x < 18446744073709551616) (hy : y < 18446744073709551616) (hc : c ≤ 1) : ∃ S T : Nat, IntKind.u64.wrap ((x : Int) + (y : Int)) = (S : Int) ∧ IntKind.u64.wrap ((S : Int) + (c : Int)) = (T : Int) ∧ T = (x + y + c) % 18446744073709551616 ∧
  ((S < x ∧ (x + y + c) / 18446744073709551616 = 1) ∨ (x ≤ S ∧ T < S ∧ (x + y + c) / 18446744073709551616 = 1) ∨ (x ≤ S ∧ S ≤ T ∧ (x + y + c) / 18446744073709551616 = 0)) := by
 refine ⟨(x + y) % 18446744073709551616, ((x + y) % 18446744073709551616 + c) % 18446744073709551616, wrap64_add x y, wrap64_add _ c, by omega, ?_⟩
 omega
theorem tTo_step (a b : Nat → Nat) (k v : Nat) (hv : v = tA a b k) : ∀ j, j < 4 → upd (tTo a b k) k v j = tTo a b (k + 1) j := by
 intro j _
 unfold upd tTo
 by_cases e : j = k
 ·subst e; rw [if_pos rfl, if_pos (by omega), hv]
 ·rw [if_neg e]
  by_cases h : j < k
  ·rw [if_pos h, if_pos (by omega)]
  ·rw [if_neg h, if_neg (by omega)]
set_option maxRecDepth 100000 in
set_option maxHeartbeats 1000000 in
theorem add_walk (a b : Nat → Nat) (ha : ∀ j, a j < 18446744073709551616) (hb : ∀ j, b j < 18446744073709551616) (w : World) :
  Calls Tryz.prog 77 #[.agg (rowOf .u64 4 a).toArray, .agg (rowOf .u64 4 b).toArray] w fun e w' => e = .returned (.tuple #[.agg (rowOf .u64 4 (tA a b)).toArray, .int .u64 (cA a b 4)]) ∧ Below w.heap.size w w' := by
 obtain ⟨ra, hra⟩ : ∃ ra, Hid (ra = (rowOf .u64 4 a).toArray) := ⟨_, Lib.hid rfl⟩
 obtain ⟨rb, hrb⟩ : ∃ rb, Hid (rb = (rowOf .u64 4 b).toArray) := ⟨_, Lib.hid rfl⟩
 rw [← hra.out, ← hrb.out]
 have HA := Lib.hid ha
 have HBb := Lib.hid hb
 clear ha hb
 go_enter Tryz.func77, Tryz.ntmps77
 go_wp2_with (refine wpList_run rfl _ (exec_alloc_agg _ 75 rfl _ (zero47 _)) ?_)
 have hW : ∀ w4 : World, w4 = (((w.alloc (.cells ra 75)).alloc (.cells rb 75)).alloc (.cells (rowOf .u64 4 fun _ => 0).toArray 75)).alloc (.cells (rowOf .u64 4 fun _ => 0).toArray 75) →
   Row w4 w.heap.size 75 .u64 4 a ∧ Row w4 (w.heap.size + 1) 75 .u64 4 b ∧ Row w4 (w.heap.size + 1 + 1) 75 .u64 4 (fun _ => 0) ∧ Row w4 (w.heap.size + 1 + 1 + 1) 75 .u64 4 (tTo a b 0) ∧ Below w.heap.size w w4 := by
  rintro w4 rfl
  rw [hra.out, hrb.out]
  refine ⟨(((Row.new w 75 .u64 4 a).alloc _).alloc _).alloc _, ?_, ?_, ?_, ((((Below.refl _ w).alloc (Nat.le_refl _) _).alloc (by simp) _).alloc (by simp <;> omega) _).alloc (by simp <;> omega) _⟩
  ·have h := Row.new (w.alloc (.cells (rowOf .u64 4 a).toArray 75)) 75 .u64 4 b
   rw [World.size_alloc] at h
   exact (h.alloc _).alloc _
  ·have h := Row.new ((w.alloc (.cells (rowOf .u64 4 a).toArray 75)).alloc (.cells (rowOf .u64 4 b).toArray 75)) 75 .u64 4 (fun _ => 0)
   rw [World.size_alloc, World.size_alloc] at h
   exact h.alloc _
  ·have h := Row.new (((w.alloc (.cells (rowOf .u64 4 a).toArray 75)).alloc (.cells (rowOf .u64 4 b).toArray 75)).alloc (.cells (rowOf .u64 4 fun _ => 0).toArray 75)) 75 .u64 4 (fun _ => 0)
   rw [World.size_alloc, World.size_alloc, World.size_alloc] at h
   exact h
 have hW2 := hW _ rfl
 obtain ⟨w4, hw4⟩ : ∃ w4, w4 = (((w.alloc (.cells ra 75)).alloc (.cells rb 75)).alloc (.cells (rowOf .u64 4 fun _ => 0).toArray 75)).alloc (.cells (rowOf .u64 4 fun _ => 0).toArray 75) := ⟨_, rfl⟩
 rw [← hw4] at hW2 ⊢
 have HW := Lib.hid hW2
 clear hW hW2 hw4
 go_loopw [7, 8, 9, 10] (fun c i s t wr => ∃ k : Nat, k ≤ 4 ∧ i = .int .i64 k ∧ c = .int .u64 (cA a b k) ∧ Row wr w.heap.size 75 .u64 4 a ∧ Row wr (w.heap.size + 1) 75 .u64 4 b ∧ Row wr (w.heap.size + 1 + 1) 75 .u64 4 (fun _ => 0) ∧ Row wr (w.heap.size + 1 + 1 + 1) 75 .u64 4 (tTo a b k) ∧ Below w.heap.size w wr) (fun _ i _ _ _ => 4 - (intOf i).toNat)
 case atStart => exact ⟨0, by omega, rfl, rfl, HW.out⟩
 case round =>
  clear HW
  obtain ⟨k, hk, rfl, rfl, h0, h1, h2, h3, hbl⟩ := hrel
  have H0 := Lib.hid h0
  have H1 := Lib.hid h1
  have H2 := Lib.hid h2
  have H3 := Lib.hid h3
  have HB := Lib.hid hbl
  clear h0 h1 h2 h3 hbl
  by_cases hlt : k < 4
  ·have hk4 : (k : Int) < 4 := by omega
   have c0 : wr.cell? ⟨w.heap.size, k, none⟩ = some (.int .u64 (a k)) := H0.out.cell k hlt
   have c1 : wr.cell? ⟨w.heap.size + 1, k, none⟩ = some (.int .u64 (b k)) := H1.out.cell k hlt
   have c3 : wr.cell? ⟨w.heap.size + 1 + 1 + 1, k, none⟩ = some (.int .u64 (tTo a b k k)) := H3.out.cell k hlt
   have f3 : wr.frozen? ⟨w.heap.size + 1 + 1 + 1, k, none⟩ = false := H3.out.free k
   obtain ⟨S, T, hS, hT, hT2, hcar0⟩ := carry_of (a k) (b k) (cA a b k) (HA.out k) (HBb.out k) (cA_le a b HA.out HBb.out k)
   have HT2 : Hid (T = tA a b k) := hT2
   have hcar : (S < a k ∧ cA a b (k + 1) = 1) ∨ (a k ≤ S ∧ T < S ∧ cA a b (k + 1) = 1) ∨ (a k ≤ S ∧ S ≤ T ∧ cA a b (k + 1) = 0) := hcar0
   clear hT2 hcar0
   have HSET : Hid (Row ((wr.drewN 1).setCell ⟨w.heap.size + 1 + 1 + 1, k, none⟩ (.int .u64 T)) (w.heap.size + 1 + 1 + 1) 75 .u64 4 (tTo a b (k + 1))) := Lib.hid ((Row.set (w := wr.drewN 1) H3.out k T).ext (tTo_step a b k T HT2.out))
   generalize a k = x at *
   generalize b k = y at *
   generalize cA a b k = c at *
   generalize tTo a b k k = old at *
   rcases hcar with ⟨hc1, hc2⟩ | ⟨hc1, hc3, hc2⟩ | ⟨hc1, hc3, hc2⟩
   all_goals
    have HC := Lib.hid hc2
    clear hc2
   ·have d1 : decide ((S : Int) < (x : Int)) = true := by simp; omega
    have hc1I : (S : Int) < (x : Int) := by omega
    go_wp2
    go_quiet (fail)
    go_wp2
    go_roundw
    case rel =>
     refine ⟨k + 1, by omega, by go_num, ?_, H0.out.other _ _ (by show w.heap.size ≠ w.heap.size + 1 + 1 + 1; omega), H1.out.other _ _ (by show w.heap.size + 1 ≠ w.heap.size + 1 + 1 + 1; omega), H2.out.other _ _ (by show w.heap.size + 1 + 1 ≠ w.heap.size + 1 + 1 + 1; omega), ?_, ?_⟩
     ·rw [HC.out]; rfl
     ·exact HSET.out
     ·exact Below.setCell (Below.drewN' HB.out _) (p := ⟨w.heap.size + 1 + 1 + 1, k, none⟩) (by show w.heap.size ≤ w.heap.size + 1 + 1 + 1; omega) _
    case measure => simp [intOf]; omega
   ·have d1 : decide ((S : Int) < (x : Int)) = false := by simp; omega
    have d2 : decide ((T : Int) < (S : Int)) = true := by simp; omega
    have hc1I : (x : Int) ≤ (S : Int) := by omega
    have hc3I : (T : Int) < (S : Int) := by omega
    go_wp2
    go_quiet (fail)
    go_wp2
    go_roundw
    case rel =>
     refine ⟨k + 1, by omega, by go_num, ?_, H0.out.other _ _ (by show w.heap.size ≠ w.heap.size + 1 + 1 + 1; omega), H1.out.other _ _ (by show w.heap.size + 1 ≠ w.heap.size + 1 + 1 + 1; omega), H2.out.other _ _ (by show w.heap.size + 1 + 1 ≠ w.heap.size + 1 + 1 + 1; omega), ?_, ?_⟩
     ·rw [HC.out]; rfl
     ·exact HSET.out
     ·exact Below.setCell (Below.drewN' HB.out _) (p := ⟨w.heap.size + 1 + 1 + 1, k, none⟩) (by show w.heap.size ≤ w.heap.size + 1 + 1 + 1; omega) _
    case measure => simp [intOf]; omega
   ·have d1 : decide ((S : Int) < (x : Int)) = false := by simp; omega
    have d2 : decide ((T : Int) < (S : Int)) = false := by simp; omega
    have hc1I : (x : Int) ≤ (S : Int) := by omega
    have hc3I : (S : Int) ≤ (T : Int) := by omega
    go_wp2
    go_quiet (fail)
    go_wp2
    go_roundw
    case rel =>
     refine ⟨k + 1, by omega, by go_num, ?_, H0.out.other _ _ (by show w.heap.size ≠ w.heap.size + 1 + 1 + 1; omega), H1.out.other _ _ (by show w.heap.size + 1 ≠ w.heap.size + 1 + 1 + 1; omega), H2.out.other _ _ (by show w.heap.size + 1 + 1 ≠ w.heap.size + 1 + 1 + 1; omega), ?_, ?_⟩
     ·rw [HC.out]; rfl
     ·exact HSET.out
     ·exact Below.setCell (Below.drewN' HB.out _) (p := ⟨w.heap.size + 1 + 1 + 1, k, none⟩) (by show w.heap.size ≤ w.heap.size + 1 + 1 + 1; omega) _
    case measure => simp [intOf]; omega
  ·obtain rfl : k = 4 := by omega
   obtain ⟨cs, hcs⟩ : ∃ cs, Hid (cs = rowOf .u64 4 (tA a b)) := ⟨_, Lib.hid rfl⟩
   have hrow : wr.heap[w.heap.size + 1 + 1 + 1]? = some (.cells cs.toArray 75 (0, 0)) := by
    rw [hcs.out]
    exact H3.out.ext (fun j hj => by unfold tTo; rw [if_pos hj])
   have hseg : Hid (∀ j v, cs[j]? = some v → wr.cell? ⟨w.heap.size + 1 + 1 + 1, 0 + j, none⟩ = some v) := by
    intro j v hv
    rw [cell_of_row _ _ _ _ _ _ hrow, Nat.zero_add, List.getElem?_toArray, hv]
   have hlen : Hid (cs.length = 4) := by unfold Hid; rw [hcs.out, rowOf_length]
   have hsz : Hid ((Tryz.prog.info? 75).map (·.size) = some cs.length) := by unfold Hid; rw [hcs.out]; exact size47 _
   have hone : Hid (∀ v ∈ cs, v.oneCell' = true) := by unfold Hid; rw [hcs.out]; exact rowOf_one _ _ _
   have hfit : Hid (0 + cs.length ≤ (rowOf .u64 4 (fun _ => 0)).toArray.size) := by unfold Hid; rw [hlen.out, rowOf_size]; exact Nat.le_refl _
   have hfit2 : Hid ((rowOf .u64 4 (fun _ => 0)).toArray.size = cs.length) := by unfold Hid; rw [hlen.out, rowOf_size]
   clear hrow
   rw [show ((4 : Nat) : Int) = (4 : Int) from rfl]
   go_wp2_with (first | (refine wpList_load_seg rfl 75 (.tmp 6) rfl (w.heap.size + 1 + 1 + 1) 0 rfl cs _ hseg.out Tryz.underlying75 rfl hsz.out ?_) | (refine wpList_store_seg rfl 75 (.tmp 4) (.tmp 38) rfl (w.heap.size + 1 + 1) 0 rfl cs rfl _ 75 H2.out hfit.out hone.out hsz.out ?_))
   rw [splice_all _ _ hfit2.out]
   have hld : (loadVar 75 ⟨w.heap.size + 1 + 1, 0, none⟩).run Tryz.prog (wr.setRow (w.heap.size + 1 + 1) cs.toArray) = .ok (.agg cs.toArray) (wr.setRow (w.heap.size + 1 + 1) cs.toArray) := by
    refine run_loadVar_seg _ 75 (w.heap.size + 1 + 1) 0 cs _ (fun j v hv => ?_) Tryz.underlying75 rfl hsz.out
    rw [cell_of_row _ (w.heap.size + 1 + 1) (0 + j) cs.toArray 75 (0, 0) (setRow_heap _ _ _ _ _ _ H2.out), Nat.zero_add, List.getElem?_toArray, hv]
   have hbel : Below w.heap.size w (wr.setRow (w.heap.size + 1 + 1) cs.toArray) := by
    exact HB.out.trans ⟨rfl, rfl, rfl, by simp, fun k hk => setRow_other _ _ _ _ (by omega)⟩
   generalize wr.setRow (w.heap.size + 1 + 1) cs.toArray = W2 at *
   refine bodyPost_ret (results_two rfl _ _ _ ⟨w.heap.size + 1 + 1, 0, none⟩ rfl _ hld) rfl ⟨?_, hbel⟩
   rw [hcs.out]
   rfl
theorem tA_add (x y : N4) : rowOf .u64 4 (tA (at4 x) (at4 y)) = rowOf .u64 4 (at4 (addL x y)) := by
 refine rowOf_ext (fun j hj => ?_)
 unfold addL
 simp only [force_eq, mk4_eq]
 rcases (show j = 0 ∨ j = 1 ∨ j = 2 ∨ j = 3 by omega) with rfl | rfl | rfl | rfl
 ·unfold tA cA at4; rfl
 ·unfold tA cA cA at4; rfl
 ·unfold tA cA cA cA at4; rfl
 ·unfold tA cA cA cA cA at4; rfl
theorem addL_ok (x y : N4) : (addL x y).ok := by
 unfold addL N4.ok
 simp only [force_eq, mk4_eq]
 refine ⟨?_, ?_, ?_, ?_⟩ <;> exact Nat.mod_lt _ (by decide)
theorem add_any (x y : N4) (hx : x.ok) (hy : y.ok) (w : World) :
  Calls Tryz.prog 77 #[.agg (num x), .agg (num y)] w fun e w' => e = .returned (.tuple #[.agg (num (addL x y)), .int .u64 (cA (at4 x) (at4 y) 4)]) ∧ Below w.heap.size w w' := by
 have h := add_walk (at4 x) (at4 y) (at4_lt hx) (at4_lt hy) w
 rw [tA_add] at h
 exact h
end Go.Proofs.YtdbbcngolcnniaaGreatDoor.S3
/- sum and Less of the document's package, over numbers of four words of 64 bits. -/
namespace Go.Proofs.YtdbbcngolcnniaaGreatDoor.S3
set_option linter.unusedSimpArgs false
open Go.RowKit
set_option linter.unusedVariables false
def RowL (w : World) (g : Nat) (t : TypeId) (cs : List Value) : Prop := w.heap[g]? = some (.cells cs.toArray t (0, 0))
theorem RowL.seg {w : World} {g : Nat} {t : TypeId} {cs : List Value} (h : RowL w g t cs) : ∀ j v, cs[j]? = some v → w.cell? ⟨g, 0 + j, none⟩ = some v := by
 intro j v hv
 rw [cell_of_row _ _ _ _ _ _ h, Nat.zero_add, List.getElem?_toArray, hv]
theorem RowL.lt {w : World} {g : Nat} {t : TypeId} {cs : List Value} (h : RowL w g t cs) : g < w.heap.size := lt_of_block h
theorem RowL.new (w : World) (t : TypeId) (cs : List Value) : RowL (w.alloc (.cells cs.toArray t)) w.heap.size t cs := heap_alloc_new w _
theorem RowL.alloc {w : World} {g : Nat} {t : TypeId} {cs : List Value} (h : RowL w g t cs) (o : Obj) : RowL (w.alloc o) g t cs := by
 unfold RowL; rw [Below.heap_alloc _ _ _ h.lt]; exact h
theorem RowL.below {w w' : World} {g : Nat} {t : TypeId} {cs : List Value} (h : RowL w g t cs) (hb : Below w.heap.size w w') : RowL w' g t cs := by
 unfold RowL; rw [hb.block g h.lt]; exact h
theorem RowL.setRow {w : World} {g : Nat} {t : TypeId} {cs : List Value} (h : RowL w g t cs) (cs2 : List Value) : RowL (w.setRow g cs2.toArray) g t cs2 := setRow_heap _ _ _ _ _ _ h
theorem RowL.setRow_ne {w : World} {g k : Nat} {t : TypeId} {cs : List Value} (h : RowL w g t cs) (hk : g ≠ k) (cs2 : Array Value) : RowL (w.setRow k cs2) g t cs := by
 unfold RowL; rw [setRow_other _ _ _ _ hk]; exact h
theorem RowL.four (w : World) (t1 t2 t3 t4 : TypeId) (a b c d : List Value) : RowL ((((w.alloc (.cells a.toArray t1)).alloc (.cells b.toArray t2)).alloc (.cells c.toArray t3)).alloc (.cells d.toArray t4)) w.heap.size t1 a ∧
  RowL ((((w.alloc (.cells a.toArray t1)).alloc (.cells b.toArray t2)).alloc (.cells c.toArray t3)).alloc (.cells d.toArray t4)) (w.heap.size + 1) t2 b ∧
  RowL ((((w.alloc (.cells a.toArray t1)).alloc (.cells b.toArray t2)).alloc (.cells c.toArray t3)).alloc (.cells d.toArray t4)) (w.heap.size + 1 + 1) t3 c ∧
  RowL ((((w.alloc (.cells a.toArray t1)).alloc (.cells b.toArray t2)).alloc (.cells c.toArray t3)).alloc (.cells d.toArray t4)) (w.heap.size + 1 + 1 + 1) t4 d ∧
  Below w.heap.size w ((((w.alloc (.cells a.toArray t1)).alloc (.cells b.toArray t2)).alloc (.cells c.toArray t3)).alloc (.cells d.toArray t4)) := by
 refine ⟨(((RowL.new w t1 a).alloc _).alloc _).alloc _, ?_, ?_, ?_, ((((Below.refl _ w).alloc (Nat.le_refl _) _).alloc (by simp) _).alloc (by simp <;> omega) _).alloc (by simp <;> omega) _⟩
 ·have h := RowL.new (w.alloc (.cells a.toArray t1)) t2 b
  rw [World.size_alloc] at h
  exact (h.alloc _).alloc _
 ·have h := RowL.new ((w.alloc (.cells a.toArray t1)).alloc (.cells b.toArray t2)) t3 c
  rw [World.size_alloc, World.size_alloc] at h
  exact h.alloc _
 ·have h := RowL.new (((w.alloc (.cells a.toArray t1)).alloc (.cells b.toArray t2)).alloc (.cells c.toArray t3)) t4 d
  rw [World.size_alloc, World.size_alloc, World.size_alloc] at h
  exact h
set_option maxRecDepth 100000 in
set_option maxHeartbeats 1000000 in
theorem sum3_any (x y z : N4) (hx : x.ok) (hy : y.ok) (hz : z.ok) (w : World) :
  Calls Tryz.prog 75 #[.agg (num x), .agg (num y), .agg (num z)] w fun e w' => e = .returned (.agg (num (sumL x y z))) ∧ Below w.heap.size w w' := by
 obtain ⟨cx, hcx⟩ : ∃ cx, Hid (cx = rowOf .u64 4 (at4 x)) := ⟨_, Lib.hid rfl⟩
 obtain ⟨cy, hcy⟩ : ∃ cy, Hid (cy = rowOf .u64 4 (at4 y)) := ⟨_, Lib.hid rfl⟩
 obtain ⟨cz, hcz⟩ : ∃ cz, Hid (cz = rowOf .u64 4 (at4 z)) := ⟨_, Lib.hid rfl⟩
 have HA1 := Lib.hid (add_any x y hx hy)
 have HA2 := Lib.hid (add_any (addL x y) z (addL_ok x y) hz)
 unfold num at HA1 HA2 ⊢
 rw [← hcx.out, ← hcy.out] at HA1
 rw [← hcz.out] at HA2
 rw [← hcx.out, ← hcy.out, ← hcz.out]
 have sx : Hid ((Tryz.prog.info? 75).map (·.size) = some cx.length) := by unfold Hid; rw [hcx.out]; exact size47 _
 have sy : Hid ((Tryz.prog.info? 75).map (·.size) = some cy.length) := by unfold Hid; rw [hcy.out]; exact size47 _
 have sz : Hid ((Tryz.prog.info? 75).map (·.size) = some cz.length) := by unfold Hid; rw [hcz.out]; exact size47 _
 obtain ⟨r, hr⟩ : ∃ r, Hid (r = rowOf .u64 4 (at4 (addL x y))) := ⟨_, Lib.hid rfl⟩
 obtain ⟨q, hq⟩ : ∃ q, Hid (q = rowOf .u64 4 (at4 (sumL x y z))) := ⟨_, Lib.hid rfl⟩
 rw [show addL (addL x y) z = sumL x y z from rfl, ← hq.out, ← hr.out] at HA2
 rw [← hr.out] at HA1
 rw [← hq.out]
 have sr : Hid ((Tryz.prog.info? 75).map (·.size) = some r.length) := by unfold Hid; rw [hr.out]; exact size47 _
 have sq : Hid ((Tryz.prog.info? 75).map (·.size) = some q.length) := by unfold Hid; rw [hq.out]; exact size47 _
 have oner : Hid (∀ v ∈ r, v.oneCell' = true) := by unfold Hid; rw [hr.out]; exact rowOf_one _ _ _
 have oneq : Hid (∀ v ∈ q, v.oneCell' = true) := by unfold Hid; rw [hq.out]; exact rowOf_one _ _ _
 have fitr : Hid ((rowOf .u64 4 (fun _ => 0)).toArray.size = r.length) := by unfold Hid; rw [hr.out, rowOf_length, rowOf_size]
 have fitq : Hid ((rowOf .u64 4 (fun _ => 0)).toArray.size = q.length) := by unfold Hid; rw [hq.out, rowOf_length, rowOf_size]
 obtain ⟨z4, hz4⟩ : ∃ z4 : List Value, Hid (z4 = rowOf .u64 4 (fun _ => 0)) := ⟨_, Lib.hid rfl⟩
 have hz47 : Hid (∀ w, (zeroValue 75).run Tryz.prog w = .ok (.agg z4.toArray) w) := by unfold Hid; rw [hz4.out]; exact zero47
 rw [← hz4.out] at fitr fitq
 clear hx hy hz hcx hcy hcz hr hq hz4
 go_enter Tryz.func75, Tryz.ntmps75
 go_upto_region 1 with (refine wpList_run rfl _ (exec_alloc_agg _ 75 rfl _ (hz47.out _)) ?_)
 have hrows := RowL.four w 75 75 75 75 cx cy cz z4
 obtain ⟨w4, hw4⟩ : ∃ w4, w4 = (((w.alloc (.cells cx.toArray 75)).alloc (.cells cy.toArray 75)).alloc (.cells cz.toArray 75)).alloc (.cells z4.toArray 75) := ⟨_, rfl⟩
 rw [← hw4] at hrows ⊢
 obtain ⟨h0, h1, h2, h3, hb4⟩ := hrows
 have R0 := Lib.hid h0
 have R1 := Lib.hid h1
 have R2 := Lib.hid h2
 have R3 := Lib.hid h3
 have B4 := Lib.hid hb4
 clear h0 h1 h2 h3 hb4 hw4
 go_wp2_with (first | (refine wpList_load_seg rfl 75 (.tmp 3) rfl w.heap.size 0 rfl cx _ R0.out.seg Tryz.underlying75 rfl sx.out ?_) | (refine wpList_load_seg rfl 75 (.tmp 4) rfl (w.heap.size + 1) 0 rfl cy _ R1.out.seg Tryz.underlying75 rfl sy.out ?_))
 refine (HA1.out _).mono ?_
 rintro e w5 ⟨rfl, hb5⟩
 have R2' := Lib.hid ((R2.out.below hb5).alloc (.cells r.toArray 75))
 have R3' := Lib.hid ((R3.out.below hb5).alloc (.cells r.toArray 75))
 have RN := Lib.hid (RowL.new w5 75 r)
 have B5 := Lib.hid ((B4.out.trans (hb5.mono B4.out.size)).alloc (B4.out.trans (hb5.mono B4.out.size)).size (.cells r.toArray 75))
 clear hb5 R0 R1 R2 R3 B4 HA1
 go_wp2_with (first | (refine wpList_run rfl _ (exec_alloc_agg _ 75 rfl _ (hz47.out _)) ?_) | (refine wpList_run0 rfl (exec_store_new w5 75 (.tmp 7) (.tmp 15) rfl _ 75 rfl r rfl fitr.out oner.out sr.out) ?_) | (refine wpList_load_seg rfl 75 (.tmp 7) rfl w5.heap.size 0 rfl r _ RN.out.seg Tryz.underlying75 rfl sr.out ?_) | (refine wpList_load_seg rfl 75 (.tmp 5) rfl (w.heap.size + 1 + 1) 0 rfl cz _ R2'.out.seg Tryz.underlying75 rfl sz.out ?_))
 refine (HA2.out _).mono ?_
 rintro e w6 ⟨rfl, hb6⟩
 have R3'' := Lib.hid ((R3'.out.below hb6).alloc (.cells q.toArray 75))
 have RQ := Lib.hid (RowL.new w6 75 q)
 have B6 := Lib.hid ((B5.out.trans (hb6.mono B5.out.size)).alloc (B5.out.trans (hb6.mono B5.out.size)).size (.cells q.toArray 75))
 clear hb6 R2' R3' RN B5 HA2
 go_wp2_with (first | (refine wpList_run rfl _ (exec_alloc_agg _ 75 rfl _ (hz47.out _)) ?_) | (refine wpList_run0 rfl (exec_store_new w6 75 (.tmp 9) (.tmp 21) rfl _ 75 rfl q rfl fitq.out oneq.out sq.out) ?_) | (refine wpList_load_seg rfl 75 (.tmp 9) rfl w6.heap.size 0 rfl q _ RQ.out.seg Tryz.underlying75 rfl sq.out ?_) | (refine wpList_store_seg rfl 75 (.tmp 6) (.tmp 23) rfl (w.heap.size + 1 + 1 + 1) 0 rfl q rfl _ 75 R3''.out (by rw [Nat.zero_add, fitq.out]; exact Nat.le_refl _) oneq.out sq.out ?_))
 rw [splice_all _ _ fitq.out]
 have hld := run_loadVar_seg (P := Tryz.prog) ((w6.alloc (.cells q.toArray 75)).setRow (w.heap.size + 1 + 1 + 1) q.toArray) 75 (w.heap.size + 1 + 1 + 1) 0 q _ (R3''.out.setRow q).seg Tryz.underlying75 rfl sq.out
 have hbel : Below w.heap.size w ((w6.alloc (.cells q.toArray 75)).setRow (w.heap.size + 1 + 1 + 1) q.toArray) := B6.out.trans ⟨rfl, rfl, rfl, by simp, fun k hk => setRow_other _ _ _ _ (by omega)⟩
 generalize (w6.alloc (.cells q.toArray 75)).setRow (w.heap.size + 1 + 1 + 1) q.toArray = W2 at *
 exact bodyPost_ret (v := .agg q.toArray) (results_cell rfl _ _ _ ⟨w.heap.size + 1 + 1 + 1, 0, none⟩ rfl _ hld) rfl ⟨rfl, hbel⟩
theorem sumL_ok (x y z : N4) : (sumL x y z).ok := addL_ok _ _
def lessTo (a b : Nat → Nat) : Nat → Bool
 | 0 => false
 | k + 1 => if a k = b k then lessTo a b k else decide (a k < b k)
set_option maxRecDepth 100000 in
set_option maxHeartbeats 1000000 in
theorem less_walk (a b : Nat → Nat) (w : World) :
  Calls Tryz.prog 78 #[.agg (rowOf .u64 4 a).toArray, .agg (rowOf .u64 4 b).toArray] w fun e w' => e = .returned (.bool (lessTo a b 4)) ∧ Below w.heap.size w w' := by
 have h0 := (Row.new w 75 .u64 4 a).alloc (.cells (rowOf .u64 4 b).toArray 75)
 have h1 := Row.new (w.alloc (.cells (rowOf .u64 4 a).toArray 75)) 75 .u64 4 b
 rw [World.size_alloc] at h1
 have hb : Below w.heap.size w ((w.alloc (.cells (rowOf .u64 4 a).toArray 75)).alloc (.cells (rowOf .u64 4 b).toArray 75)) := ((Below.refl _ w).alloc (Nat.le_refl _) _).alloc (by simp) _
 obtain ⟨ra, hra⟩ : ∃ ra, Hid (ra = (rowOf .u64 4 a).toArray) := ⟨_, Lib.hid rfl⟩
 obtain ⟨rb, hrb⟩ : ∃ rb, Hid (rb = (rowOf .u64 4 b).toArray) := ⟨_, Lib.hid rfl⟩
 rw [← hra.out, ← hrb.out] at h0 h1 hb ⊢
 have R0 := Lib.hid h0
 have R1 := Lib.hid h1
 have HB := Lib.hid hb
 clear h0 h1 hb
 obtain ⟨out, hout⟩ : ∃ out, Hid (out = lessTo a b 4) := ⟨_, Lib.hid rfl⟩
 rw [← hout.out]
 go_enter Tryz.func78, Tryz.ntmps78
 go_wp2
 obtain ⟨w2, hw2⟩ : ∃ w2, w2 = (w.alloc (.cells ra 75)).alloc (.cells rb 75) := ⟨_, rfl⟩
 rw [← hw2] at R0 R1 HB ⊢
 clear hw2
 go_loopw [5] (fun i wr => ∃ k : Nat, k ≤ 4 ∧ i = .int .i64 ((k : Int) - 1) ∧ lessTo a b k = out ∧ Row wr w.heap.size 75 .u64 4 a ∧ Row wr (w.heap.size + 1) 75 .u64 4 b ∧ Below w.heap.size w wr) (fun i _ => (1 + intOf i).toNat)
 case atStart => exact ⟨4, by omega, rfl, hout.out.symm, R0.out, R1.out, HB.out⟩
 case round =>
  clear R0 R1 HB
  obtain ⟨k, hk, rfl, hl, h0, h1, hbl⟩ := hrel
  have R0 := Lib.hid h0
  have R1 := Lib.hid h1
  have HB := Lib.hid hbl
  have HL := Lib.hid hl
  clear h0 h1 hbl hl
  cases k with
  | zero =>
   have ho : out = false := by rw [← HL.out]; rfl
   subst ho
   go_wp2
   go_ret
   exact ⟨rfl, HB.out⟩
  | succ k =>
   have c0 : wr.cell? ⟨w.heap.size, k, none⟩ = some (.int .u64 (a k)) := R0.out.cell k (by omega)
   have c1 : wr.cell? ⟨w.heap.size + 1, k, none⟩ = some (.int .u64 (b k)) := R1.out.cell k (by omega)
   have hk4 : (k : Int) < 4 := by omega
   have e1 : (((k + 1 : Nat) : Int) - 1) = (k : Int) := by omega
   rw [e1]
   by_cases he : a k = b k
   ·have HL2 : Hid (lessTo a b k = out) := by unfold Hid; rw [← HL.out]; show _ = (if a k = b k then lessTo a b k else decide (a k < b k)); rw [if_pos he]
    have d1 : ((a k : Int) != (b k : Int)) = false := by rw [he]; simp
    generalize a k = x at *
    generalize b k = y at *
    clear he HL
    go_wp2
    go_quiet (fail)
    go_wp2
    go_roundw
    case rel => exact ⟨k, by omega, rfl, HL2.out, R0.out, R1.out, Below.drewN' HB.out _⟩
    case measure => simp [intOf]; omega
   ·have HL2 : Hid (decide (a k < b k) = out) := by
     unfold Hid; rw [← HL.out]
     show _ = (if a k = b k then lessTo a b k else decide (a k < b k)); rw [if_neg he]
    have d1 : ((a k : Int) != (b k : Int)) = true := by rw [bne_iff_ne]; omega
    generalize a k = x at *
    generalize b k = y at *
    clear he HL
    go_wp2
    go_quiet (fail)
    go_wp2
    go_quiet (fail)
    go_wp2
    go_ret
    exact ⟨by rw [← HL2.out]; rfl, Below.drewN' (Below.drewN' HB.out _) _⟩
theorem less_eq (x y : N4) : lessTo (at4 x) (at4 y) 4 = lessL x y := by
 unfold lessL
 show (if x.d = y.d then (if x.c = y.c then (if x.b = y.b then (if x.a = y.a then false else decide (x.a < y.a)) else decide (x.b < y.b)) else decide (x.c < y.c)) else decide (x.d < y.d)) = _
 by_cases h : x.a = y.a
 ·rw [if_pos h, show decide (x.a < y.a) = false by simp; omega]
 ·rw [if_neg h]
theorem less_any (x y : N4) (w : World) :
  Calls Tryz.prog 78 #[.agg (num x), .agg (num y)] w fun e w' => e = .returned (.bool (lessL x y)) ∧ Below w.heap.size w w' := by
 rw [← less_eq]
 exact less_walk (at4 x) (at4 y) w
end Go.Proofs.YtdbbcngolcnniaaGreatDoor.S3
/- up of the document's package: a number of four words moved up by some bits. -/
namespace Go.Proofs.YtdbbcngolcnniaaGreatDoor.S3
set_option linter.unusedSimpArgs false
open Go.RowKit
set_option linter.unusedVariables false
def upTo (x : N4) (n k j : Nat) : Nat := if j < k then upW x n j else 0
theorem wrap64_shl (v r : Nat) : IntKind.u64.wrap ((v : Int) * 2 ^ r) = ((v * 2 ^ r % 18446744073709551616 : Nat) : Int) := by
 have h : IntKind.u64.wrap ((v : Int) * 2 ^ r) = ((v : Int) * 2 ^ r) % 18446744073709551616 := by simp [IntKind.wrap, IntKind.bits, IntKind.signed]
 rw [h, Int.natCast_emod, Int.natCast_mul, Int.natCast_pow]; rfl
theorem or64 (p v r : Nat) (hp : p < 18446744073709551616) (hv : v < 18446744073709551616) : bits .or .u64 (p : Int) ((v : Int) / 2 / 2 ^ r) = ((p ||| v / 2 / 2 ^ r : Nat) : Int) := by
 have h := bits_or_u64_nat p (v / 2 / 2 ^ r) hp (Nat.lt_of_le_of_lt (Nat.div_le_self _ _) (by omega))
 rw [← h, Int.natCast_ediv, Int.natCast_ediv, Int.natCast_pow]; rfl
theorem upTo_step (x : N4) (n k v : Nat) (hv : v = upW x n k) : ∀ j, j < 4 → upd (upTo x n k) k v j = upTo x n (k + 1) j := by
 intro j _
 unfold upd upTo
 by_cases e : j = k
 ·subst e; rw [if_pos rfl, if_pos (by omega), hv]
 ·rw [if_neg e]
  by_cases h : j < k
  ·rw [if_pos h, if_pos (by omega)]
  ·rw [if_neg h, if_neg (by omega)]
theorem upd_upd (f : Nat → Nat) (k u v : Nat) : upd (upd f k u) k v = upd f k v := by
 funext j
 unfold upd
 split <;> rfl
set_option maxRecDepth 100000 in
set_option maxHeartbeats 1000000 in
theorem up_walk (x : N4) (hx : x.ok) (n : Nat) (hn : n < 256) (w : World) :
  Calls Tryz.prog 76 #[.agg (num x), .int .i64 n] w fun e w' => e = .returned (.agg (rowOf .u64 4 (upW x n)).toArray) ∧ Below w.heap.size w w' := by
 obtain ⟨rx, hrx⟩ : ∃ rx, Hid (rx = rowOf .u64 4 (at4 x)) := ⟨_, Lib.hid rfl⟩
 unfold num
 rw [← hrx.out]
 obtain ⟨z4, hz4⟩ : ∃ z4 : List Value, Hid (z4 = rowOf .u64 4 (fun _ => 0)) := ⟨_, Lib.hid rfl⟩
 have hz47 : Hid (∀ w, (zeroValue 75).run Tryz.prog w = .ok (.agg z4.toArray) w) := by unfold Hid; rw [hz4.out]; exact zero47
 have HX := Lib.hid (at4_lt hx)
 clear hx
 obtain ⟨q, hq0⟩ : ∃ q, Hid (q = n / 64) := ⟨_, Lib.hid rfl⟩
 obtain ⟨r, hr0⟩ : ∃ r, Hid (r = n % 64) := ⟨_, Lib.hid rfl⟩
 have hq : (n : Int) / 64 = (q : Int) := by rw [hq0.out]; omega
 have hr : (n : Int) % 64 = (r : Int) := by rw [hr0.out]; omega
 have hq4 : q < 4 := by rw [hq0.out]; omega
 have hr64 : r < 64 := by rw [hr0.out]; omega
 have hW : ∀ w4 : World, w4 = ((w.alloc (.cells rx.toArray 75)).alloc (.cells z4.toArray 75)).alloc (.cells z4.toArray 75) →
   Row w4 w.heap.size 75 .u64 4 (at4 x) ∧ RowL w4 (w.heap.size + 1) 75 z4 ∧ Row w4 (w.heap.size + 1 + 1) 75 .u64 4 (upTo x n q) ∧ Below w.heap.size w w4 := by
  rintro w4 rfl
  refine ⟨?_, ?_, ?_, (((Below.refl _ w).alloc (Nat.le_refl _) _).alloc (by simp) _).alloc (by simp <;> omega) _⟩
  ·rw [hrx.out]; exact ((Row.new w 75 .u64 4 (at4 x)).alloc _).alloc _
  ·have h := RowL.new (w.alloc (.cells rx.toArray 75)) 75 z4
   rw [World.size_alloc] at h
   exact h.alloc _
  ·have h := Row.new ((w.alloc (.cells rx.toArray 75)).alloc (.cells z4.toArray 75)) 75 .u64 4 (fun _ => 0)
   rw [World.size_alloc, World.size_alloc, ← hz4.out] at h
   refine h.ext (fun j hj => ?_)
   unfold upTo upW
   rw [← hq0.out]
   by_cases e : j < q
   ·rw [if_pos e, if_pos e]
   ·rw [if_neg e]
 go_enter Tryz.func76, Tryz.ntmps76
 go_wp2_with (refine wpList_run rfl _ (exec_alloc_agg _ 75 rfl _ (hz47.out _)) ?_)
 have hW2 := hW _ rfl
 obtain ⟨w4, hw4⟩ : ∃ w4, w4 = ((w.alloc (.cells rx.toArray 75)).alloc (.cells z4.toArray 75)).alloc (.cells z4.toArray 75) := ⟨_, rfl⟩
 rw [← hw4] at hW2 ⊢
 have HW := Lib.hid hW2
 clear hW hW2 hw4
 go_loopw [6, 7] (fun i k wr => ∃ i0 : Nat, q ≤ i0 ∧ i0 ≤ 4 ∧ i = .int .i64 i0 ∧ Row wr w.heap.size 75 .u64 4 (at4 x) ∧ RowL wr (w.heap.size + 1) 75 z4 ∧ Row wr (w.heap.size + 1 + 1) 75 .u64 4 (upTo x n i0) ∧ Below w.heap.size w wr) (fun i _ _ => 4 - (intOf i).toNat)
 case atStart => exact ⟨q, by omega, by omega, rfl, HW.out⟩
 case round =>
  clear HW
  obtain ⟨i0, hi1, hi2, rfl, h0, h1, h2, hbl⟩ := hrel
  have R0 := Lib.hid h0
  have R1 := Lib.hid h1
  have R2 := Lib.hid h2
  have HB := Lib.hid hbl
  clear h0 h1 h2 hbl
  by_cases hlt : i0 < 4
  ·obtain ⟨k, hk0⟩ : ∃ k, Hid (k = i0 - q) := ⟨_, Lib.hid rfl⟩
   have hkle : k + q = i0 := by rw [hk0.out]; omega
   have HKQ := Lib.hid hkle
   have hk : IntKind.i64.wrap ((i0 : Int) - (q : Int)) = (k : Int) := by rw [IntWalk.i64_in _ (by omega)]; omega
   have hk2 : (i0 : Int) - (q : Int) = (k : Int) := by omega
   have hk4 : (k : Int) < 4 := by omega
   have hkn : k < 4 := by omega
   clear hkle
   have hi4 : (i0 : Int) < 4 := by omega
   have ck : wr.cell? ⟨w.heap.size, k, none⟩ = some (.int .u64 (at4 x k)) := R0.out.cell k hkn
   have ci : wr.cell? ⟨w.heap.size + 1 + 1, i0, none⟩ = some (.int .u64 (upTo x n i0 i0)) := R2.out.cell i0 hlt
   have fi : wr.frozen? ⟨w.heap.size + 1 + 1, i0, none⟩ = false := R2.out.free i0
   obtain ⟨p, hp0⟩ : ∃ p, Hid (p = at4 x k * 2 ^ r % 18446744073709551616) := ⟨_, Lib.hid rfl⟩
   have hp : IntKind.u64.wrap ((at4 x k : Int) * 2 ^ r) = (p : Int) := by rw [wrap64_shl, hp0.out]
   have hpl : Hid (p < 18446744073709551616) := by unfold Hid; rw [hp0.out]; exact Nat.mod_lt _ (by decide)
   have ROLD := Lib.hid (Row.set (w := wr) R2.out i0 p)
   generalize upTo x n i0 i0 = old at *
   go_upto_region 7 with (fail)
   have h0' : Row (wr.setCell ⟨w.heap.size + 1 + 1, i0, none⟩ (.int .u64 p)) w.heap.size 75 .u64 4 (at4 x) := R0.out.other _ _ (by show w.heap.size ≠ w.heap.size + 1 + 1; omega)
   have h1' : RowL (wr.setCell ⟨w.heap.size + 1 + 1, i0, none⟩ (.int .u64 p)) (w.heap.size + 1) 75 z4 := by
    unfold RowL
    rw [heap_setCell_other _ _ _ _ (by show w.heap.size + 1 ≠ w.heap.size + 1 + 1; omega)]
    exact R1.out
   have hb' : Below w.heap.size w (wr.setCell ⟨w.heap.size + 1 + 1, i0, none⟩ (.int .u64 p)) := HB.out.setCell (p := ⟨w.heap.size + 1 + 1, i0, none⟩) (by show w.heap.size ≤ w.heap.size + 1 + 1; omega) _
   have h2' := ROLD.out
   obtain ⟨w7, hw7⟩ : ∃ w7, w7 = wr.setCell ⟨w.heap.size + 1 + 1, i0, none⟩ (.int .u64 p) := ⟨_, rfl⟩
   rw [← hw7] at h0' h1' hb' h2' ⊢
   have S0 := Lib.hid h0'
   have S1 := Lib.hid h1'
   have S2 := Lib.hid h2'
   have SB := Lib.hid hb'
   clear h0' h1' h2' hb' hw7 ROLD R0 R1 R2 HB ck ci fi hp
   by_cases hk0' : k = 0
   ·have hkk : decide ((0 : Int) < (k : Int)) = false := by simp; omega
    have hkI : ¬ ((0 : Int) < (k : Int)) := by omega
    have HU : Hid (p = upW x n i0) := by
     unfold Hid upW
     have hq1 : i0 = q := by have := HKQ.out; omega
     rw [← hq0.out, ← hr0.out, hq1, if_neg (by omega), if_pos rfl, hp0.out, hk0']
    clear hk0'
    go_wp2
    go_roundw
    case rel => exact ⟨i0 + 1, by omega, by omega, by go_num, S0.out, S1.out, S2.out.ext (upTo_step x n i0 p HU.out), SB.out⟩
    case measure => simp [intOf]; omega
   ·have hkk : decide ((0 : Int) < (k : Int)) = true := by simp; omega
    have hkI : (0 : Int) < (k : Int) := by omega
    obtain ⟨j, hj0⟩ : ∃ j, Hid (j = k - 1) := ⟨_, Lib.hid rfl⟩
    have hj1 : IntKind.i64.wrap ((k : Int) - 1) = (j : Int) := by rw [IntWalk.i64_in _ (by omega), hj0.out]; omega
    have hj2 : (k : Int) - 1 = (j : Int) := by rw [hj0.out]; omega
    have hj4 : (j : Int) < 4 := by omega
    have hjn : j < 4 := by omega
    have cj : w7.cell? ⟨w.heap.size, j, none⟩ = some (.int .u64 (at4 x j)) := S0.out.cell j hjn
    have ci : w7.cell? ⟨w.heap.size + 1 + 1, i0, none⟩ = some (.int .u64 p) := by rw [S2.out.cell i0 hlt]; unfold upd; rw [if_pos rfl]
    have fi : w7.frozen? ⟨w.heap.size + 1 + 1, i0, none⟩ = false := S2.out.free i0
    have hv := HX.out j
    have HU : Hid ((p ||| at4 x j / 2 / 2 ^ (63 - r)) = upW x n i0) := by
     unfold Hid upW
     have hq1 := HKQ.out
     rw [← hq0.out, ← hr0.out, if_neg (by omega), if_neg (by omega), hp0.out, show i0 - q = k by omega, show k - 1 = j by rw [hj0.out]]
    have hor := or64 p (at4 x j) (63 - r) hpl.out hv
    obtain ⟨o, ho0⟩ : ∃ o, Hid (o = (p ||| at4 x j / 2 / 2 ^ (63 - r))) := ⟨_, Lib.hid rfl⟩
    rw [← ho0.out] at hor HU
    have ROLD : Hid (Row (w7.setCell ⟨w.heap.size + 1 + 1, i0, none⟩ (.int .u64 o)) (w.heap.size + 1 + 1) 75 .u64 4 (upTo x n (i0 + 1))) := by
     have h1 := Row.set (w := w7) S2.out i0 o
     rw [upd_upd] at h1
     exact h1.ext (upTo_step x n i0 o HU.out)
    generalize at4 x j = v2 at *
    have h63 : IntKind.i64.wrap (63 - (r : Int)) = ((63 - r : Nat) : Int) := by
     rw [IntWalk.i64_in _ (by omega)]
     omega
    clear hk0' hv
    go_wp2
    go_region
    all_goals
     go_wp2
     go_roundw
     case rel =>
      refine ⟨i0 + 1, by omega, by omega, by go_num, ?_, ?_, ROLD.out, (SB.out.setCell (p := ⟨w.heap.size + 1 + 1, i0, none⟩) (by show w.heap.size ≤ w.heap.size + 1 + 1; omega) _).drew⟩
      ·exact Row.other (w := w7) S0.out _ _ (by show w.heap.size ≠ w.heap.size + 1 + 1; omega)
      ·have h : RowL (w7.setCell ⟨w.heap.size + 1 + 1, i0, none⟩ (.int .u64 o)) (w.heap.size + 1) 75 z4 := by
        unfold RowL
        rw [heap_setCell_other _ _ _ _ (by show w.heap.size + 1 ≠ w.heap.size + 1 + 1; omega)]
        exact S1.out
       exact h
     case measure => simp [intOf]; omega
  ·obtain rfl : i0 = 4 := by omega
   obtain ⟨cs, hcs⟩ : ∃ cs, Hid (cs = rowOf .u64 4 (upW x n)) := ⟨_, Lib.hid rfl⟩
   have hrow : RowL wr (w.heap.size + 1 + 1) 75 cs := by
    rw [hcs.out]
    exact R2.out.ext (fun j hj => by unfold upTo; rw [if_pos hj])
   have HROW := Lib.hid hrow
   have hsz : Hid ((Tryz.prog.info? 75).map (·.size) = some cs.length) := by unfold Hid; rw [hcs.out]; exact size47 _
   have hone : Hid (∀ v ∈ cs, v.oneCell' = true) := by unfold Hid; rw [hcs.out]; exact rowOf_one _ _ _
   have hfit2 : Hid (z4.toArray.size = cs.length) := by unfold Hid; rw [hz4.out, hcs.out, rowOf_size, rowOf_length]
   clear hrow R2
   rw [show ((4 : Nat) : Int) = (4 : Int) from rfl]
   go_wp2_with (first | (refine wpList_load_seg rfl 75 (.tmp 5) rfl (w.heap.size + 1 + 1) 0 rfl cs _ HROW.out.seg Tryz.underlying75 rfl hsz.out ?_) | (refine wpList_store_seg rfl 75 (.tmp 4) (.tmp 42) rfl (w.heap.size + 1) 0 rfl cs rfl _ 75 R1.out (by rw [Nat.zero_add, hfit2.out]; exact Nat.le_refl _) hone.out hsz.out ?_))
   rw [splice_all _ _ hfit2.out]
   have hld := run_loadVar_seg (P := Tryz.prog) (wr.setRow (w.heap.size + 1) cs.toArray) 75 (w.heap.size + 1) 0 cs _ (R1.out.setRow cs).seg Tryz.underlying75 rfl hsz.out
   have hbel : Below w.heap.size w (wr.setRow (w.heap.size + 1) cs.toArray) := HB.out.trans ⟨rfl, rfl, rfl, by simp, fun k hk => setRow_other _ _ _ _ (by omega)⟩
   generalize wr.setRow (w.heap.size + 1) cs.toArray = W2 at *
   exact bodyPost_ret (v := .agg cs.toArray) (results_cell rfl _ _ _ ⟨w.heap.size + 1, 0, none⟩ rfl _ hld) rfl ⟨by rw [hcs.out], hbel⟩
theorem upL_row (x : N4) (n : Nat) : rowOf .u64 4 (upW x n) = rowOf .u64 4 (at4 (upL x n)) := by
 refine rowOf_ext (fun j hj => ?_)
 unfold upL
 rw [mk4_eq]
 rcases (show j = 0 ∨ j = 1 ∨ j = 2 ∨ j = 3 by omega) with rfl | rfl | rfl | rfl <;> rfl
theorem upW_lt (x : N4) (hx : x.ok) (n i : Nat) : upW x n i < 18446744073709551616 := by
 unfold upW
 split
 ·omega
 ·split
  ·exact Nat.mod_lt _ (by decide)
  ·refine Nat.or_lt_two_pow (n := 64) (Nat.mod_lt _ (by decide)) ?_
   refine Nat.lt_of_le_of_lt (Nat.le_trans (Nat.div_le_self _ _) (Nat.div_le_self _ _)) (at4_lt hx _)
theorem upL_ok (x : N4) (hx : x.ok) (n : Nat) : (upL x n).ok := by
 unfold upL
 rw [mk4_eq]
 exact ⟨upW_lt x hx n 0, upW_lt x hx n 1, upW_lt x hx n 2, upW_lt x hx n 3⟩
theorem up_any (x : N4) (hx : x.ok) (n : Nat) (hn : n < 256) (w : World) :
  Calls Tryz.prog 76 #[.agg (num x), .int .i64 n] w fun e w' => e = .returned (.agg (num (upL x n))) ∧ Below w.heap.size w w' := by
 have h := up_walk x hx n hn w
 rw [upL_row] at h
 exact h
end Go.Proofs.YtdbbcngolcnniaaGreatDoor.S3
/- A law on a region that draws its order, whose last operation of all writes where others have read: what yields its value in every world that meets a condition may be taken first, and that condition is shown anew behind each operation but the last one. No condition but that each of the others is waited for by the last one. -/
namespace Go.Proofs.YtdbbcngolcnniaaGreatDoor.S3
set_option linter.unusedSimpArgs false
open Go.RowKit
set_option linter.unusedVariables false
section
variable {P : Program} {ops : Array Oper} {Q : Exit → Act → World → Prop} {md : Region.Mode} {S : World → Prop} {f : Nat}
def AnyF (P : Program) (md : Region.Mode) (ops : Array Oper) (Q : Exit → Act → World → Prop) (S : World → Prop) (f : Nat) : Nat → Array Bool → Act → World → Prop
 | 0, listed, a, w => Region.ready md ops listed = [] ∧ Q .normal a w
 | n + 1, listed, a, w => (Region.ready md ops listed = [] → Q .normal a w) ∧
  ∀ i ∈ Region.ready md ops listed, wpOp P ops Q i (fun a' w' => (i ≠ f → S w' ∧ AnyF P md ops Q S f n (listed.setIfInBounds i true) a' w') ∧ (i = f → wpAny P md ops Q n (listed.setIfInBounds i true) a' w')) a w
theorem any_of_F : ∀ (n : Nat) (listed : Array Bool) (a : Act) (w : World), AnyF P md ops Q S f n listed a w → wpAny P md ops Q n listed a w
 | 0, _, _, _, h => h
 | n + 1, _, _, _, h => ⟨h.1, fun i hi => wpOp_mono (fun a' w' h' => (by by_cases e : i = f; exact h'.2 e; exact any_of_F n _ a' w' (h'.1 e).2)) (h.2 i hi)⟩
theorem AnyF.first {i : Nat} {oi : Oper} {v : Value} (hi : ops[i]? = some oi) (hsel : ∀ (j : Nat) (o : Oper) cs b, ops[j]? = some o → o.op ≠ .select cs b)
  (hQ : ∀ c a w, Q (.panic c) (a.put oi.dst v) w → Q (.panic c) a w) (hif : i ≠ f) (hw : ∀ o, ops[f]? = some o → ∃ e ∈ o.after, Region.binds md e = true ∧ e.on = i) :
  ∀ (n : Nat) (listed : Array Bool) (a : Act) (w : World),
   (∀ j oj, ops[j]? = some oj → j ≠ i → listed.getD j true = false → (∀ e ∈ oj.after, Region.binds md e = true → e.on ≠ i) → oi.apart ops oj = true) →
   i ∈ Region.ready md ops listed → YieldsIf P ops S oi v a → S w → AnyF P md ops Q S f n (listed.setIfInBounds i true) (a.put oi.dst v) w → AnyF P md ops Q S f (n + 1) listed a w := by
 intro n
 induction n with
 | zero =>
  intro listed a w _ hr hy hS H
  refine ⟨fun h => (by rw [h] at hr; cases hr), fun j hj => ?_⟩
  by_cases hji : j = i
  ·subst hji; exact hy.wpOp hi hS ⟨fun _ => ⟨hS, H⟩, fun e => absurd e hif⟩
  ·have := ready_mono hj hji
   rw [H.1] at this
   cases this
 | succ n ih =>
  intro listed a w hfree hr hy hS H
  refine ⟨fun h => (by rw [h] at hr; cases hr), fun j hj => ?_⟩
  by_cases hji : j = i
  ·subst hji; exact hy.wpOp hi hS ⟨fun _ => ⟨hS, H⟩, fun e => absurd e hif⟩
  ·have h1 := H.2 j (ready_mono hj hji)
   obtain ⟨hjun, oj, hoj, hall⟩ := mem_ready.1 hj
   have hnot : ∀ e ∈ oj.after, Region.binds md e = true → e.on ≠ i := fun e he hb heq => by
    have h1 := hall e he hb
    have h0 := (mem_ready.1 hr).1
    rw [heq] at h1
    rcases Nat.lt_or_ge i listed.size with h' | h'
    ·simp [h'] at h0 h1; rw [h0] at h1; cases h1
    ·simp [Array.getElem?_eq_none h'] at h1
   have hjf : j ≠ f := by
    intro e
    subst e
    obtain ⟨e, he, hb, hon⟩ := hw oj hoj
    exact hnot e he hb hon
   have h2 := wpOp_putIf hoj (hfree j oj hoj hji hjun hnot) (fun cs b => hsel i oi cs b hi) (fun cs b => hsel j oj cs b hoj) hQ hy h1
   have hfree' : ∀ k ok, ops[k]? = some ok → k ≠ i → (listed.setIfInBounds j true).getD k true = false →
     (∀ e ∈ ok.after, Region.binds md e = true → e.on ≠ i) → oi.apart ops ok = true := fun k ok hk hki hun hno => by
    refine hfree k ok hk hki ?_ hno
    by_cases hjk : j = k
    ·subst hjk; exact hjun
    ·rw [getD_set_ne true hjk] at hun; exact hun
   refine wpOp_mono (fun a' w' h3 => ⟨fun _ => ⟨(h3.2.1 hjf).1, ih (listed.setIfInBounds j true) a' w' hfree' (ready_mono hr (Ne.symm hji)) h3.1 (h3.2.1 hjf).1 ?_⟩, fun e => absurd e hjf⟩) h2
   rw [Array.setIfInBounds_comm _ _ hji]
   exact (h3.2.1 hjf).2
variable {n : Nat} {listed : Array Bool} {a : Act} {w w2 : World} {i : Nat} {rs : List Nat}
theorem AnyF.take (i : Nat) (d : Option Tmp) (opr : Op) (v : Value) (ho : (ops[i]?).map (fun o => (o.dst, o.op, o.guard)) = some (d, opr, none)) (hs : Region.noSelect ops = true) (hf : Region.free md ops listed i = true) (hr : (Region.ready md ops listed).contains i = true)
  (hQ : ∀ c a w, Q (.panic c) (a.put d v) w → Q (.panic c) a w) (hif : (i == f) = false) (hwt : Region.waitsFor md ops f i = true) (hy : ∀ (o : Oper), o.op = opr → ∀ w, S w → (execOp a.eval o).run P w = .ok (.value v) w) (hS : S w)
  (h : AnyF P md ops Q S f n (listed.setIfInBounds i true) (a.put d v) w) : AnyF P md ops Q S f (n + 1) listed a w := by
 cases hq : ops[i]? with
 | none => simp [hq] at ho
 | some o =>
  simp [hq] at ho
  obtain ⟨rfl, rfl, hg⟩ := ho
  refine AnyF.first hq (Region.noSelect_spec hs) hQ (by simpa using hif) ?_ n listed a w (Region.free_spec hq hf) (by simpa using hr) (Or.inl ⟨by simp [Region.wanted, hg], hy o rfl⟩) hS h
  intro o2 ho2
  obtain ⟨oj, h1, e, h2, h3, h4⟩ := Region.waitsFor_spec hwt
  rw [ho2] at h1
  cases h1
  exact ⟨e, h2, h3, h4⟩
theorem F_of_any : ∀ (n : Nat) (listed : Array Bool) (a : Act) (w : World), wpAny P md ops Q n listed a w → AnyF P md ops Q (fun _ => True) f n listed a w
 | 0, _, _, _, h => h
 | n + 1, _, _, _, h => ⟨h.1, fun i hi => wpOp_mono (fun a' w' h' => ⟨fun _ => ⟨trivial, F_of_any n _ a' w' h'⟩, fun _ => h'⟩) (h.2 i hi)⟩
theorem AnyF.first0 {i g : Nat} {oi : Oper} {v : Value} (hi : ops[i]? = some oi) (hsel : ∀ (j : Nat) (o : Oper) cs b, ops[j]? = some o → o.op ≠ .select cs b)
  (hQ : ∀ c a w, Q (.panic c) (a.put oi.dst v) w → Q (.panic c) a w) (hif : i ≠ f) (hg : ops[g]? = none) :
  ∀ (n : Nat) (listed : Array Bool) (a : Act) (w : World),
   (∀ j oj, ops[j]? = some oj → j ≠ i → listed.getD j true = false → (∀ e ∈ oj.after, Region.binds md e = true → e.on ≠ i) → oi.apart ops oj = true) →
   i ∈ Region.ready md ops listed → YieldsIf P ops (fun _ => True) oi v a → S w → AnyF P md ops Q S f n (listed.setIfInBounds i true) (a.put oi.dst v) w → AnyF P md ops Q S f (n + 1) listed a w := by
 intro n
 induction n with
 | zero =>
  intro listed a w _ hr hy hS H
  refine ⟨fun h => (by rw [h] at hr; cases hr), fun j hj => ?_⟩
  by_cases hji : j = i
  ·subst hji; exact hy.wpOp hi trivial ⟨fun _ => ⟨hS, H⟩, fun e => absurd e hif⟩
  ·have := ready_mono hj hji
   rw [H.1] at this
   cases this
 | succ n ih =>
  intro listed a w hfree hr hy hS H
  refine ⟨fun h => (by rw [h] at hr; cases hr), fun j hj => ?_⟩
  by_cases hji : j = i
  ·subst hji; exact hy.wpOp hi trivial ⟨fun _ => ⟨hS, H⟩, fun e => absurd e hif⟩
  ·have h1 := H.2 j (ready_mono hj hji)
   obtain ⟨hjun, oj, hoj, hall⟩ := mem_ready.1 hj
   have hnot : ∀ e ∈ oj.after, Region.binds md e = true → e.on ≠ i := fun e he hb heq => by
    have h1 := hall e he hb
    have h0 := (mem_ready.1 hr).1
    rw [heq] at h1
    rcases Nat.lt_or_ge i listed.size with h' | h'
    ·simp [h'] at h0 h1; rw [h0] at h1; cases h1
    ·simp [Array.getElem?_eq_none h'] at h1
   have h2 := wpOp_putIf hoj (hfree j oj hoj hji hjun hnot) (fun cs b => hsel i oi cs b hi) (fun cs b => hsel j oj cs b hoj) hQ hy h1
   have hfree' : ∀ k ok, ops[k]? = some ok → k ≠ i → (listed.setIfInBounds j true).getD k true = false →
     (∀ e ∈ ok.after, Region.binds md e = true → e.on ≠ i) → oi.apart ops ok = true := fun k ok hk hki hun hno => by
    refine hfree k ok hk hki ?_ hno
    by_cases hjk : j = k
    ·subst hjk; exact hjun
    ·rw [getD_set_ne true hjk] at hun; exact hun
   have hig : i ≠ g := fun e => by rw [← e, hi] at hg; cases hg
   refine wpOp_mono (fun a' w' h3 => ⟨fun hjf => ⟨(h3.2.1 hjf).1, ih (listed.setIfInBounds j true) a' w' hfree' (ready_mono hr (Ne.symm hji)) h3.1 (h3.2.1 hjf).1 ?_⟩, fun hjf => ?_⟩) h2
   ·rw [Array.setIfInBounds_comm _ _ hji]
    exact (h3.2.1 hjf).2
   ·refine any_of_F (S := fun _ => True) (f := g) _ _ _ _ (AnyF.first hi hsel hQ hig (fun o ho => by rw [hg] at ho; cases ho) n (listed.setIfInBounds j true) a' w' hfree' (ready_mono hr (Ne.symm hji)) h3.1 trivial (F_of_any _ _ _ _ ?_))
    rw [Array.setIfInBounds_comm _ _ hji]
    exact h3.2.2 hjf
theorem AnyF.take0 {n : Nat} {listed : Array Bool} {a : Act} {w : World} (i g : Nat) (d : Option Tmp) (opr : Op) (v : Value) (ho : (ops[i]?).map (fun o => (o.dst, o.op, o.guard)) = some (d, opr, none)) (hs : Region.noSelect ops = true) (hf : Region.free md ops listed i = true) (hr : (Region.ready md ops listed).contains i = true)
  (hQ : ∀ c a w, Q (.panic c) (a.put d v) w → Q (.panic c) a w) (hif : (i == f) = false) (hg : ops[g]? = none) (hy : ∀ (o : Oper), o.op = opr → ∀ w, (execOp a.eval o).run P w = .ok (.value v) w) (hS : S w)
  (h : AnyF P md ops Q S f n (listed.setIfInBounds i true) (a.put d v) w) : AnyF P md ops Q S f (n + 1) listed a w := by
 cases hq : ops[i]? with
 | none => simp [hq] at ho
 | some o =>
  simp [hq] at ho
  obtain ⟨rfl, rfl, hgd⟩ := ho
  exact AnyF.first0 hq (Region.noSelect_spec hs) hQ (by simpa using hif) hg n listed a w (Region.free_spec hq hf) (by simpa using hr) (Or.inl ⟨by simp [Region.wanted, hgd], fun w _ => hy o rfl w⟩) hS h
def ReadyF (P : Program) (md : Region.Mode) (ops : Array Oper) (Q : Exit → Act → World → Prop) (S : World → Prop) (f n : Nat) (listed : Array Bool) (a : Act) (w : World) (rs : List Nat) : Prop :=
 ∀ i ∈ rs, wpOp P ops Q i (fun a' w' => (i ≠ f → S w' ∧ AnyF P md ops Q S f n (listed.setIfInBounds i true) a' w') ∧ (i = f → wpAny P md ops Q n (listed.setIfInBounds i true) a' w')) a w
theorem AnyF.ready (hr : Region.ready md ops listed = rs) (hne : rs ≠ []) (h : ReadyF P md ops Q S f n listed a w rs) : AnyF P md ops Q S f (n + 1) listed a w :=
 ⟨fun h0 => absurd (hr ▸ h0) hne, hr ▸ h⟩
theorem AnyF.done (hr : Region.ready md ops listed = []) (h : Q .normal a w) : ∀ n, AnyF P md ops Q S f n listed a w
 | 0 => ⟨hr, h⟩
 | _ + 1 => ⟨fun _ => h, by rw [hr]; simp⟩
theorem any_doneF (hr : Region.ready md ops listed = []) (h : Q .normal a w) (n : Nat) : wpAny P md ops Q n listed a w := any_of_F (S := fun _ => True) (f := 0) _ _ _ _ (AnyF.done hr h n)
theorem ReadyF.nil : ReadyF P md ops Q S f n listed a w [] := fun _ h => by cases h
theorem ReadyF.cons {o : Oper} (ho : ops[i]? = some o) (hg : o.guard = none)
  (h : ∀ K : Act → World → Prop, (∀ a' w', (i ≠ f → S w' ∧ AnyF P md ops Q S f n (listed.setIfInBounds i true) a' w') ∧ (i = f → wpAny P md ops Q n (listed.setIfInBounds i true) a' w') → K a' w') → Oper.wp P o a w K Q) (hs : ReadyF P md ops Q S f n listed a w rs) : ReadyF P md ops Q S f n listed a w (i :: rs) := fun j hj => by
 rcases List.mem_cons.1 hj with rfl | hj
 ·refine wpOp_step ho (fun K hK => ?_)
  rw [if_pos (by simp [Region.wanted, hg])]
  exact h K hK
 ·exact hs j hj
theorem ReadyF.op (d : Option Tmp) (opr : Op) (ho : (ops[i]?).map (fun o => (o.dst, o.op, o.guard)) = some (d, opr, none)) (v : Value)
  (hrun : ∀ o : Oper, o.op = opr → (execOp a.eval o).run P w = .ok (.value v) w2) (hS : S w2) (h : AnyF P md ops Q S f n (listed.setIfInBounds i true) (a.put d v) w2)
  (hs : ReadyF P md ops Q S f n listed a w rs) (hif : i ≠ f := by decide) : ReadyF P md ops Q S f n listed a w (i :: rs) := by
 cases hq : ops[i]? with
 | none => simp [hq] at ho
 | some o =>
  simp [hq] at ho
  obtain ⟨rfl, rfl, hg⟩ := ho
  exact ReadyF.cons hq hg (fun K hK => by unfold Oper.wp; rw [hrun o rfl]; exact hK _ _ ⟨fun _ => ⟨hS, h⟩, fun e => absurd e hif⟩) hs
theorem ReadyF.last (opr : Op) (ho : (ops[f]?).map (fun o => (o.dst, o.op, o.guard)) = some (none, opr, none))
  (hrun : ∀ o : Oper, o.op = opr → (execOp a.eval o).run P w = .ok .skip w2) (h : wpAny P md ops Q n (listed.setIfInBounds f true) a w2)
  (hs : ReadyF P md ops Q S f n listed a w rs) : ReadyF P md ops Q S f n listed a w (f :: rs) := by
 cases hq : ops[f]? with
 | none => simp [hq] at ho
 | some o =>
  simp [hq] at ho
  obtain ⟨hd, rfl, hg⟩ := ho
  refine ReadyF.cons hq hg (fun K hK => ?_) hs
  unfold Oper.wp
  rw [hrun o rfl]
  have : a.put o.dst undef = a := by rw [hd]; rfl
  have h2 : K a w2 := hK _ _ ⟨fun e => absurd rfl e, fun _ => h⟩
  rw [← this] at h2
  exact h2
theorem ReadyF.call (d : Option Tmp) (g : FuncId) (args : Array Operand) (tys : Array TypeId) (ho : (ops[i]?).map (fun o => (o.dst, o.op, o.guard)) = some (d, .call { callee := .value (.func g), args := args, argTypes := tys }, none))
  (avs : Array Value) (has : args.map a.eval = avs) (eg : ∀ args w, (callFunc g args).run P w = .ok (.enter g args) w) (R : Ending → World → Prop) (hc : Calls P g avs w R)
  (hK : ∀ v w', R (.returned v) w' → S w' ∧ AnyF P md ops Q S f n (listed.setIfInBounds i true) (a.put d v) w') (hnp : ∀ c w', ¬ R (.panicked c) w') (hno : ∀ w', ¬ R .outgrown w')
  (hs : ReadyF P md ops Q S f n listed a w rs) (hif : i ≠ f := by decide) : ReadyF P md ops Q S f n listed a w (i :: rs) := by
 cases hq : ops[i]? with
 | none => simp [hq] at ho
 | some o =>
  simp [hq] at ho
  obtain ⟨rfl, hop, hg⟩ := ho
  refine ReadyF.cons hq hg (fun K hK2 => ?_) hs
  have hev : a.eval (.func g) = .func (.func g) #[] #[] := rfl
  have hres : (resolve a.eval { callee := .value (.func g), args := args, argTypes := tys } o.type).run P w = .ok { target := .fn (.func g) #[], args := avs } w := by
   simp [resolve, hev, has, Deferred.ofValue]
  have hx : (execOp a.eval o).run P w = .ok (.enter g avs) w := by
   unfold execOp
   simp only [hop, Sem.run_bind, hres, Result.andThen_ok, invoke]
   simp [eg]
  unfold Oper.wp
  rw [hx]
  refine hc.mono ?_
  intro e w' hr
  cases e with
  | returned v => exact hK2 _ _ ⟨fun _ => hK v w' hr, fun e => absurd e hif⟩
  | panicked c => exact (hnp c w' hr).elim
  | outgrown => exact (hno w' hr).elim
end
end Go.Proofs.YtdbbcngolcnniaaGreatDoor.S3
/- root of the document's package: roots of numbers of four words, bit by bit. -/
namespace Go.Proofs.YtdbbcngolcnniaaGreatDoor.S3
set_option linter.unusedSimpArgs false
open Go.RowKit
set_option linter.unusedVariables false
def l4 (x : N4) : List Value := rowOf .u64 4 (at4 x)
theorem l4_size (x : N4) : (Tryz.prog.info? 75).map (·.size) = some (l4 x).length := size47 _
theorem l4_one (x : N4) : ∀ v ∈ l4 x, v.oneCell' = true := rowOf_one _ _ _
theorem l4_len (x : N4) : (l4 x).length = 4 := rowOf_length _ _ _
theorem l4_fit (x y : N4) : 0 + (l4 x).length ≤ (l4 y).toArray.size := by rw [l4_len, List.size_toArray, l4_len]; exact Nat.le_refl _
theorem l4_splice (x y : N4) : splice (l4 y).toArray 0 (l4 x) = (l4 x).toArray := splice_all _ _ (by rw [l4_len, List.size_toArray, l4_len])
def o4 : N4 := ⟨0, 0, 0, 0⟩
theorem zero47' (w : World) : (zeroValue 75).run Tryz.prog w = .ok (.agg (l4 o4).toArray) w := by kernel_rfl
theorem build_one (w : World) : (Instr.build 75 #[(0, .int .u64 1)]).run Tryz.prog w = .ok (.agg (l4 one4).toArray) w := by kernel_rfl
theorem exec_addk {ρ : Operand → Value} {o : Oper} (x : Operand) (ho : o.op = .binOp .add 3 x (.const (.int .i64 1)) 3) (hc : ρ (.const (.int .i64 1)) = .int .i64 1) (k : Nat) (hk : k < 1000) (hx : ρ x = .int .i64 k) (w : World) : (execOp ρ o).run Tryz.prog w = .ok (.value (.int .i64 ((k : Int) + 1))) w := by
 have h0 : IntKind.i64.wrap ((k : Int) + 1) = (k : Int) + 1 := IntWalk.i64_in _ (by omega)
 unfold execOp
 simp only [ho, hx, hc]
 go_simp
theorem exec_mul2 {ρ : Operand → Value} {o : Oper} (y : Operand) (ho : o.op = .binOp .mul 3 (.const (.int .i64 2)) y 3) (hc : ρ (.const (.int .i64 2)) = .int .i64 2) (k : Nat) (hk : k < 1000) (hy : ρ y = .int .i64 k) (w : World) : (execOp ρ o).run Tryz.prog w = .ok (.value (.int .i64 (2 * (k : Int)))) w := by
 have h0 : IntKind.i64.wrap (2 * (k : Int)) = 2 * (k : Int) := IntWalk.i64_in _ (by omega)
 unfold execOp
 simp only [ho, hy, hc]
 go_simp
theorem exec_mul3 {ρ : Operand → Value} {o : Oper} (y : Operand) (ho : o.op = .binOp .mul 3 (.const (.int .i64 3)) y 3) (hc : ρ (.const (.int .i64 3)) = .int .i64 3) (k : Nat) (hk : k < 1000) (hy : ρ y = .int .i64 k) (w : World) : (execOp ρ o).run Tryz.prog w = .ok (.value (.int .i64 (3 * (k : Int)))) w := by
 have h0 : IntKind.i64.wrap (3 * (k : Int)) = 3 * (k : Int) := IntWalk.i64_in _ (by omega)
 unfold execOp
 simp only [ho, hy, hc]
 go_simp
theorem up_at (x : N4) (hx : x.ok) (n : Nat) (m : Int) (hm : m = (n : Int)) (hn : n < 256) (w : World) : Calls Tryz.prog 76 #[.agg (l4 x).toArray, .int .i64 m] w fun e w' => e = .returned (.agg (l4 (upL x n)).toArray) ∧ Below w.heap.size w w' := by
 subst hm
 exact up_any x hx n hn w
theorem exec_extract0 {ρ : Operand → Value} {o : Oper} (x : Operand) (ho : o.op = .extract x 0) (u v : Value) (hx : ρ x = .tuple #[u, v]) (w : World) : (execOp ρ o).run Tryz.prog w = .ok (.value u) w := by
 unfold execOp
 simp [ho, hx, go_sem]
theorem exec_extract1 {ρ : Operand → Value} {o : Oper} (x : Operand) (ho : o.op = .extract x 1) (u v : Value) (hx : ρ x = .tuple #[u, v]) (w : World) : (execOp ρ o).run Tryz.prog w = .ok (.value v) w := by
 unfold execOp
 simp [ho, hx, go_sem]
def Six (B : Nat) (w0 w : World) (ga gr gx gs gc g1 : Nat) (a : N4) (r : R3) : Prop :=
 RowL w ga 75 (l4 a) ∧ RowL w gr 75 (l4 o4) ∧ RowL w gx 75 (l4 r.x) ∧ RowL w gs 75 (l4 r.s) ∧ RowL w gc 75 (l4 r.c) ∧ RowL w g1 75 (l4 one4) ∧ Below B w0 w
theorem Six.below {B : Nat} {w0 w w' : World} {ga gr gx gs gc g1 : Nat} {a : N4} {r : R3} (h : Six B w0 w ga gr gx gs gc g1 a r) (hB : B ≤ w.heap.size) (hb : Below w.heap.size w w') : Six B w0 w' ga gr gx gs gc g1 a r :=
 ⟨h.1.below hb, h.2.1.below hb, h.2.2.1.below hb, h.2.2.2.1.below hb, h.2.2.2.2.1.below hb, h.2.2.2.2.2.1.below hb, h.2.2.2.2.2.2.trans (hb.mono hB)⟩
theorem Six.setRow {B : Nat} {w0 w : World} {ga gr gx gs gc g1 : Nat} {a : N4} {r : R3} (h : Six B w0 w ga gr gx gs gc g1 a r) (g : Nat) (cs : Array Value) (hB : B ≤ g) (h0 : ga ≠ g) (h1 : gr ≠ g) (h2 : gx ≠ g) (h3 : gs ≠ g) (h4 : gc ≠ g) (h5 : g1 ≠ g) : Six B w0 (w.setRow g cs) ga gr gx gs gc g1 a r :=
 ⟨h.1.setRow_ne h0 _, h.2.1.setRow_ne h1 _, h.2.2.1.setRow_ne h2 _, h.2.2.2.1.setRow_ne h3 _, h.2.2.2.2.1.setRow_ne h4 _, h.2.2.2.2.2.1.setRow_ne h5 _, h.2.2.2.2.2.2.trans ⟨rfl, rfl, rfl, by simp, fun k hk => setRow_other _ _ _ _ (by omega)⟩⟩
def cIt (r : R3) (k : Nat) : Nat → N4
 | 0 => r.c
 | q + 1 => cuStep r k (cIt r k q)
theorem cIt_ok (r : R3) (k : Nat) (hc : r.c.ok) : ∀ q, (cIt r k q).ok
 | 0 => hc
 | q + 1 => addL_ok _ _
theorem one_ok : one4.ok := by unfold N4.ok one4; simp
theorem RowL.cellset {w : World} {g : Nat} {t : TypeId} {cs : List Value} (h : RowL w g t cs) (k j : Nat) (v : Value) (hk : g ≠ k) : RowL (w.setCell ⟨k, j, none⟩ v) g t cs := by
 unfold RowL
 rw [heap_setCell_other _ _ _ _ (show g ≠ (⟨k, j, none⟩ : Addr).block from hk)]
 exact h
theorem Six.setX {B : Nat} {w0 w : World} {ga gr gx gs gc g1 : Nat} {a : N4} {r : R3} (h : Six B w0 w ga gr gx gs gc g1 a r) (q v : Nat) (x' : N4) (hx : ∀ j, j < 4 → upd (at4 r.x) q v j = at4 x' j) (hB : B ≤ gx) (h0 : ga ≠ gx) (h1 : gr ≠ gx) (h3 : gs ≠ gx) (h4 : gc ≠ gx) (h5 : g1 ≠ gx) :
  Six B w0 (w.setCell ⟨gx, q, none⟩ (.int .u64 v)) ga gr gx gs gc g1 a ⟨x', r.s, r.c⟩ := by
 refine ⟨h.1.cellset _ _ _ h0, h.2.1.cellset _ _ _ h1, ?_, h.2.2.2.1.cellset _ _ _ h3, h.2.2.2.2.1.cellset _ _ _ h4, h.2.2.2.2.2.1.cellset _ _ _ h5, h.2.2.2.2.2.2.setCell (p := ⟨gx, q, none⟩) hB _⟩
 have h7 : Row w gx 75 .u64 4 (at4 r.x) := h.2.2.1
 exact Row.ext (Row.set (w := w) h7 q v) hx
theorem Six.setS {B : Nat} {w0 w : World} {ga gr gx gs gc g1 : Nat} {a : N4} {r : R3} (h : Six B w0 w ga gr gx gs gc g1 a r) (s : N4) (hB : B ≤ gs) (h0 : ga ≠ gs) (h1 : gr ≠ gs) (h2 : gx ≠ gs) (h4 : gc ≠ gs) (h5 : g1 ≠ gs) : Six B w0 (w.setRow gs (l4 s).toArray) ga gr gx gs gc g1 a ⟨r.x, s, r.c⟩ :=
 ⟨h.1.setRow_ne h0 _, h.2.1.setRow_ne h1 _, h.2.2.1.setRow_ne h2 _, h.2.2.2.1.setRow _, h.2.2.2.2.1.setRow_ne h4 _, h.2.2.2.2.2.1.setRow_ne h5 _, h.2.2.2.2.2.2.trans ⟨rfl, rfl, rfl, by simp, fun k hk => setRow_other _ _ _ _ (by omega)⟩⟩
theorem Six.setC {B : Nat} {w0 w : World} {ga gr gx gs gc g1 : Nat} {a : N4} {r : R3} (h : Six B w0 w ga gr gx gs gc g1 a r) (c : N4) (hB : B ≤ gc) (h0 : ga ≠ gc) (h1 : gr ≠ gc) (h2 : gx ≠ gc) (h3 : gs ≠ gc) (h5 : g1 ≠ gc) : Six B w0 (w.setRow gc (l4 c).toArray) ga gr gx gs gc g1 a ⟨r.x, r.s, c⟩ :=
 ⟨h.1.setRow_ne h0 _, h.2.1.setRow_ne h1 _, h.2.2.1.setRow_ne h2 _, h.2.2.2.1.setRow_ne h3 _, h.2.2.2.2.1.setRow _, h.2.2.2.2.2.1.setRow_ne h5 _, h.2.2.2.2.2.2.trans ⟨rfl, rfl, rfl, by simp, fun k hk => setRow_other _ _ _ _ (by omega)⟩⟩
theorem setBit_upd (x : N4) (k : Nat) (hk : k < 128) : ∀ j, j < 4 → upd (at4 x) (k / 64) (at4 x (k / 64) ||| 2 ^ (k % 64)) j = at4 (setBit x k) j := by
 intro j hj
 unfold setBit
 rcases (show k / 64 = 0 ∨ k / 64 = 1 by omega) with e | e
 ·rw [e, if_pos rfl]
  rcases (show j = 0 ∨ j = 1 ∨ j = 2 ∨ j = 3 by omega) with rfl | rfl | rfl | rfl <;> rfl
 ·rw [e, if_neg (by decide)]
  rcases (show j = 0 ∨ j = 1 ∨ j = 2 ∨ j = 3 by omega) with rfl | rfl | rfl | rfl <;> rfl
theorem two64 {b : Nat} (hb : b < 64) : 2 ^ b < 18446744073709551616 := Nat.lt_of_lt_of_le (Nat.pow_lt_pow_right (by decide) hb) (by decide)
theorem setBit_ok (x : N4) (hx : x.ok) (k : Nat) : (setBit x k).ok := by
 obtain ⟨h1, h2, h3, h4⟩ := hx
 have hp := two64 (Nat.mod_lt k (show 0 < 64 by decide))
 unfold setBit
 split
 ·exact ⟨Nat.or_lt_two_pow (n := 64) h1 hp, h2, h3, h4⟩
 ·exact ⟨h1, Nat.or_lt_two_pow (n := 64) h2 hp, h3, h4⟩
theorem shl_one (b : Nat) (hb : b < 64) : IntKind.u64.wrap ((1 : Int) * 2 ^ b) = ((2 ^ b : Nat) : Int) := by
 have h := wrap64_shl 1 b
 rw [Nat.one_mul, Nat.mod_eq_of_lt (two64 hb)] at h
 exact h
theorem or_two (v b : Nat) (hv : v < 18446744073709551616) (hb : b < 64) : bits .or .u64 (v : Int) ((2 ^ b : Nat) : Int) = ((v ||| 2 ^ b : Nat) : Int) := bits_or_u64_nat v (2 ^ b) hv (two64 hb)
end Go.Proofs.YtdbbcngolcnniaaGreatDoor.S3
