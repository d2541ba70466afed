/- The numbers that a block is made into: words of package sha, over any 64 bytes. -/
import Derived.Test.YtjkbbndiickcnaaDoorMem
import Derived.BigRegion
import Derived.IntWalk
import Derived.RegionTactic
import Derived.Deep.RegionWith
import Derived.Deep.RegionHeld3
namespace Go.Proofs.YtjkbbndiickcnaaDoor
open Go.RowKit
set_option linter.unusedVariables false
def r53 (f : Nat → Nat) : List Value := rowOf .u32 64 f
theorem results_cell {fn : Func} {a : Tmp} {t : TypeId} (h : fn.results = #[.cell a t]) (tmps : Array Value) (P : Program) (w : World) (ad : Addr) (ha : tmps.getD a undef = .pointer (some ad)) (v : Value)
    (hl : (loadVar t ad).run P w = .ok v w) : (results fn tmps).run P w = .ok v w := by
  have ha2 : tmps[a]?.getD undef = .pointer (some ad) := by rw [← Array.getD_eq_getD_getElem?]; exact ha
  unfold results
  rw [h]
  simp [Array.mapM_eq_mapM_toList, ha2, asAddr, hl]
theorem cell_set_ne {w : World} {g j k : Nat} {v x : Value} (hj : j ≠ k) (h : w.cell? ⟨g, j, none⟩ = some x) : (w.setCell ⟨g, k, none⟩ v).cell? ⟨g, j, none⟩ = some x := by
  rw [← h]
  refine World.cell?_setCell_other (a := ⟨g, k, none⟩) (h := by intro e; injection e with _ e2 _; exact hj e2.symm) (w := w) (v := v)
theorem zero53 (w : World) : (zeroValue 53).run Tryd.prog w = .ok (.agg (rowOf .u32 64 (fun _ => 0)).toArray) w := by rw [← replicate_rowOf]; kernel_rfl
theorem size53 (f : Nat → Nat) : (Tryd.prog.info? 53).map (·.size) = some (rowOf .u32 64 f).length := by rw [rowOf_length]; kernel_rfl
theorem ext4 (s : ByteArray) (k : Nat) (h : 4 * k + 4 ≤ s.size) : ∃ c0 c1 c2 c3 : UInt8, s.extract (4 * k) (4 * k + 4) = ⟨#[c0, c1, c2, c3]⟩ ∧
    be s.data.toList k = c0.toNat * 16777216 + c1.toNat * 65536 + c2.toNat * 256 + c3.toNat := by
  refine ⟨s.data.toList.getD (4 * k) 0, s.data.toList.getD (4 * k + 1) 0, s.data.toList.getD (4 * k + 2) 0, s.data.toList.getD (4 * k + 3) 0, ?_, rfl⟩
  apply ByteArray.ext
  rw [ByteArray.data_extract]
  apply Array.ext'
  rw [Array.toList_extract]
  have hl : s.data.toList.length = s.size := rfl
  apply List.ext_getElem?
  intro j
  by_cases hj : j < 4
  · have e : (List.extract s.data.toList (4 * k) (4 * k + 4))[j]? = some (s.data.toList.getD (4 * k + j) 0) := by
      rw [List.extract_eq_take_drop, List.getElem?_take, if_pos (by omega), List.getElem?_drop, List.getD_eq_getElem?_getD, List.getElem?_eq_getElem (by omega)]
      rfl
    rw [e]
    rcases (show j = 0 ∨ j = 1 ∨ j = 2 ∨ j = 3 by omega) with rfl | rfl | rfl | rfl <;> rfl
  · rw [List.getElem?_eq_none (by rw [List.extract_eq_take_drop, List.length_take]; omega), List.getElem?_eq_none (by simp; omega)]
theorem or_join (i a b : Nat) (hb : b < 2 ^ i) : a * 2 ^ i ||| b = a * 2 ^ i + b := by
  rw [Nat.mul_comm, Nat.two_pow_add_eq_or_of_lt hb]

theorem quad_or (b0 b1 b2 b3 : Nat) (h0 : b0 < 256) (h1 : b1 < 256) (h2 : b2 < 256) (h3 : b3 < 256) :
    bits .or .u32 ((b0 : Int) * 16777216) ((b1 : Int) * 65536) = ((b0 * 16777216 + b1 * 65536 : Nat) : Int) ∧
    bits .or .u32 ((b0 * 16777216 + b1 * 65536 : Nat) : Int) ((b2 : Int) * 256) = ((b0 * 16777216 + b1 * 65536 + b2 * 256 : Nat) : Int) ∧
    bits .or .u32 ((b0 * 16777216 + b1 * 65536 + b2 * 256 : Nat) : Int) (b3 : Int) = ((b0 * 16777216 + b1 * 65536 + b2 * 256 + b3 : Nat) : Int) := by
  have e1 := u32_or_nat (b0 * 16777216) (b1 * 65536) (by omega) (by omega)
  have e2 := u32_or_nat (b0 * 16777216 + b1 * 65536) (b2 * 256) (by omega) (by omega)
  have e3 := u32_or_nat (b0 * 16777216 + b1 * 65536 + b2 * 256) b3 (by omega) (by omega)
  have j1 := or_join 24 b0 (b1 * 65536) (by omega)
  have j2 := or_join 16 (b0 * 256 + b1) (b2 * 256) (by omega)
  have j3 := or_join 8 (b0 * 65536 + b1 * 256 + b2) b3 (by omega)
  rw [show (2 : Nat) ^ 24 = 16777216 from rfl] at j1
  rw [show (2 : Nat) ^ 16 = 65536 from rfl, show (b0 * 256 + b1) * 65536 = b0 * 16777216 + b1 * 65536 by omega] at j2
  rw [show (2 : Nat) ^ 8 = 256 from rfl, show (b0 * 65536 + b1 * 256 + b2) * 256 = b0 * 16777216 + b1 * 65536 + b2 * 256 by omega] at j3
  rw [j1] at e1
  rw [j2] at e2
  rw [j3] at e3
  exact ⟨e1, e2, e3⟩

theorem quad_ex (c0 c1 c2 c3 : UInt8) : ∃ X X1 X2 : Nat, X = c0.toNat * 16777216 + c1.toNat * 65536 + c2.toNat * 256 + c3.toNat ∧
    bits .or .u32 ((c0.toNat : Int) * 16777216) ((c1.toNat : Int) * 65536) = (X1 : Int) ∧ bits .or .u32 (X1 : Int) ((c2.toNat : Int) * 256) = (X2 : Int) ∧ bits .or .u32 (X2 : Int) (c3.toNat : Int) = (X : Int) :=
  ⟨_, _, _, rfl, quad_or c0.toNat c1.toNat c2.toNat c3.toNat c0.toNat_lt c1.toNat_lt c2.toNat_lt c3.toNat_lt⟩
theorem idx0 (c0 c1 c2 c3 : UInt8) : ({ data := #[c0, c1, c2, c3] } : ByteArray)[0]'(by show 0 < 4; decide) = c0 := rfl
theorem idx1 (c0 c1 c2 c3 : UInt8) : ({ data := #[c0, c1, c2, c3] } : ByteArray)[1]'(by show 1 < 4; decide) = c1 := rfl
theorem idx2 (c0 c1 c2 c3 : UInt8) : ({ data := #[c0, c1, c2, c3] } : ByteArray)[2]'(by show 2 < 4; decide) = c2 := rfl
theorem idx3 (c0 c1 c2 c3 : UInt8) : ({ data := #[c0, c1, c2, c3] } : ByteArray)[3]'(by show 3 < 4; decide) = c3 := rfl

/-- What stands in the words once k of them are made. -/
def WTo (l : List UInt8) (k j : Nat) : Nat := if j < k then W l j else 0
theorem WTo_step (l : List UInt8) (k : Nat) (v : Nat) (hv : v = W l k) : ∀ j, j < 64 → upd (WTo l k) k v j = WTo l (k + 1) j := by
  intro j _
  unfold upd WTo
  by_cases e : j = k
  · subst e; rw [if_pos rfl, if_pos (by omega), hv]
  · rw [if_neg e]
    by_cases h : j < k
    · rw [if_pos h, if_pos (by omega)]
    · rw [if_neg h, if_neg (by omega)]

set_option maxRecDepth 100000 in
set_option maxHeartbeats 1000000 in
theorem words_any (s : ByteArray) (hs : s.size = 64) (w : World) :
    Calls Tryd.prog 33 #[.string s] w fun e w' => e = .returned (.agg (rowOf .u32 64 (W s.data.toList)).toArray) ∧ Below w.heap.size w w' := by
  have HS := Lib.hid hs
  have hs1 : s.size ≤ 64 := by omega
  have hs2 : 64 ≤ s.size := by omega
  clear hs
  obtain ⟨l, hl⟩ : ∃ l, Hid (l = s.data.toList) := ⟨_, Lib.hid rfl⟩
  go_enter Tryd.func33, Tryd.ntmps33
  go_wp2_with (refine wpList_run rfl _ (exec_alloc_agg _ 53 rfl _ (zero53 _)) ?_)
  go_loopw [4, 5, 7] (fun i b k0 wr => ∃ k : Nat, k ≤ 16 ∧ k0 = .int .i64 k ∧ Row wr w.heap.size 53 .u32 64 (fun _ => 0) ∧ Row wr (w.heap.size + 1) 53 .u32 64 (WTo l k) ∧ Below w.heap.size w wr) (fun _ _ k _ => 16 - (intOf k).toNat)
  case atStart =>
    refine ⟨0, by omega, rfl, (Row.new w 53 .u32 64 _).alloc _, ?_, ((Below.refl _ w).alloc (Nat.le_refl _) _).alloc (by simp) _⟩
    have := Row.new (w.alloc (.cells (rowOf .u32 64 (fun _ => 0)).toArray 53)) 53 .u32 64 (WTo l 0)
    rw [World.size_alloc] at this
    exact this
  case round =>
    obtain ⟨k, hk, rfl, hR0, hR1, hB⟩ := hrel
    have HR0 := Lib.hid hR0
    have HR1 := Lib.hid hR1
    have HBl := Lib.hid hB
    have hz : w.heap.size + 1 < wr.heap.size := hR1.lt
    clear hR0 hR1 hB
    by_cases hlt : k < 16
    · obtain ⟨c0, c1, c2, c3, hx, hbe⟩ := ext4 s k (by omega)
      obtain ⟨X, X1, X2, hX, o1, o2, o3⟩ := quad_ex c0 c1 c2 c3
      rw [← hX] at hbe
      have g0 := idx0 c0 c1 c2 c3
      have g1 := idx1 c0 c1 c2 c3
      have g2 := idx2 c0 c1 c2 c3
      have g3 := idx3 c0 c1 c2 c3
      have l0 : (c0.toNat : Int) < 256 := by have := c0.toNat_lt; omega
      have l1 : (c1.toNat : Int) < 256 := by have := c1.toNat_lt; omega
      have l2 : (c2.toNat : Int) < 256 := by have := c2.toNat_lt; omega
      have l3 : (c3.toNat : Int) < 256 := by have := c3.toNat_lt; omega
      have HX := Lib.hid hx
      have HW : Hid (X = W l k) := by unfold Hid; rw [W_low l k hlt, hl.out]; exact hbe.symm
      clear hx hbe hX
      have hk64 : (k : Int) < 64 := by omega
      have cl : wr.cell? ⟨w.heap.size + 1, k, none⟩ = some (.int .u32 (WTo l k k)) := HR1.out.cell k (by omega)
      have fr : wr.frozen? ⟨w.heap.size + 1, k, none⟩ = false := HR1.out.free k
      go_wp2
      rw [HX.out]
      go_region
      all_goals
        go_wp2
        go_roundw
        case rel =>
          refine ⟨k + 1, by omega, by go_num, ?_, ?_, ?_⟩
          · exact Row.other (w := wr) HR0.out _ _ (by simp)
          · exact Row.ext (Row.set (w := wr) HR1.out k X) (WTo_step l k X HW.out)
          · exact (Below.setCell (B := w.heap.size) (a := w) (w := wr) HBl.out (p := ⟨w.heap.size + 1, k, none⟩) (Nat.le_succ _) _).drew
        case measure => simp [intOf]; omega
    · obtain rfl : k = 16 := by omega
      go_wp2
      rw [show ((16 : Nat) : Int) = (16 : Int) from rfl]
      obtain ⟨wo, rfl⟩ : ∃ wo : World, wo = wr := ⟨_, rfl⟩
      go_loopw [6] (fun i wr => ∃ k : Nat, 16 ≤ k ∧ k ≤ 64 ∧ i = .int .i64 k ∧ Row wr w.heap.size 53 .u32 64 (fun _ => 0) ∧ Row wr (w.heap.size + 1) 53 .u32 64 (WTo l k) ∧ Below w.heap.size w wr) (fun i _ => 64 - (intOf i).toNat)
      case atStart => exact ⟨16, by omega, by omega, rfl, HR0.out, HR1.out, HBl.out⟩
      case round =>
        clear HR0 HR1 HBl hz
        obtain ⟨k, hk1, hk, rfl, hR0, hR1, hB⟩ := hrel
        have HR0 := Lib.hid hR0
        have HR1 := Lib.hid hR1
        have HBl := Lib.hid hB
        have hz : w.heap.size + 1 < wr.heap.size := hR1.lt
        clear hR0 hR1 hB
        by_cases hlt2 : k < 64
        · have hk64 : (k : Int) < 64 := by omega
          obtain ⟨j16, hj16⟩ : ∃ j, j = k - 16 := ⟨_, rfl⟩
          have w16 : IntKind.i64.wrap ((k : Int) - 16) = (j16 : Int) := by rw [IntWalk.i64_in _ (by omega)]; omega
          have b16 : (j16 : Int) < 64 := by omega
          have c16 : wr.cell? ⟨w.heap.size + 1, j16, none⟩ = some (.int .u32 (W l j16)) := by rw [HR1.out.cell j16 (by omega)]; unfold WTo; rw [if_pos (by omega)]
          obtain ⟨j15, hj15⟩ : ∃ j, j = k - 15 := ⟨_, rfl⟩
          have w15 : IntKind.i64.wrap ((k : Int) - 15) = (j15 : Int) := by rw [IntWalk.i64_in _ (by omega)]; omega
          have b15 : (j15 : Int) < 64 := by omega
          have c15 : wr.cell? ⟨w.heap.size + 1, j15, none⟩ = some (.int .u32 (W l j15)) := by rw [HR1.out.cell j15 (by omega)]; unfold WTo; rw [if_pos (by omega)]
          obtain ⟨j7, hj7⟩ : ∃ j, j = k - 7 := ⟨_, rfl⟩
          have w7 : IntKind.i64.wrap ((k : Int) - 7) = (j7 : Int) := by rw [IntWalk.i64_in _ (by omega)]; omega
          have b7 : (j7 : Int) < 64 := by omega
          have c7 : wr.cell? ⟨w.heap.size + 1, j7, none⟩ = some (.int .u32 (W l j7)) := by rw [HR1.out.cell j7 (by omega)]; unfold WTo; rw [if_pos (by omega)]
          obtain ⟨j2, hj2⟩ : ∃ j, j = k - 2 := ⟨_, rfl⟩
          have w2 : IntKind.i64.wrap ((k : Int) - 2) = (j2 : Int) := by rw [IntWalk.i64_in _ (by omega)]; omega
          have b2 : (j2 : Int) < 64 := by omega
          have c2 : wr.cell? ⟨w.heap.size + 1, j2, none⟩ = some (.int .u32 (W l j2)) := by rw [HR1.out.cell j2 (by omega)]; unfold WTo; rw [if_pos (by omega)]
          have cl : wr.cell? ⟨w.heap.size + 1, k, none⟩ = some (.int .u32 (WTo l k k)) := HR1.out.cell k (by omega)
          have fr : wr.frozen? ⟨w.heap.size + 1, k, none⟩ = false := HR1.out.free k
          have HW : Hid (add (add (add (W l j16) (nearN (W l j15))) (W l j7)) (farN (W l j2)) = W l k) := by unfold Hid; rw [hj16, hj15, hj7, hj2]; exact (W_high l k hk1).symm
          have HN := Lib.hid (near_any (W l j15) (W_lt l _))
          have HF := Lib.hid (far_any (W l j2) (W_lt l _))
          have n16 : Hid (j16 ≠ k) := Lib.hid (by omega)
          clear hj16
          have n15' : Hid (j15 ≠ k) := Lib.hid (by omega)
          clear hj15
          have n7 : Hid (j7 ≠ k) := Lib.hid (by omega)
          clear hj7
          have n2' : Hid (j2 ≠ k) := Lib.hid (by omega)
          clear hj2
          generalize W l j16 = a16 at *
          generalize nearN (W l j15) = n15 at *
          generalize W l j15 = a15 at *
          generalize W l j7 = a7 at *
          generalize farN (W l j2) = n2 at *
          generalize W l j2 = a2 at *
          generalize WTo l k k = old at *
          go_wp2
          go_region_held3 (fun w' => w'.cell? ⟨w.heap.size + 1, j16, none⟩ = some (.int .u32 a16) ∧ w'.cell? ⟨w.heap.size + 1, j15, none⟩ = some (.int .u32 a15) ∧ w'.cell? ⟨w.heap.size + 1, j7, none⟩ = some (.int .u32 a7) ∧ w'.cell? ⟨w.heap.size + 1, j2, none⟩ = some (.int .u32 a2)) (first | exact ⟨c16, c15, c7, c2⟩ | exact ⟨cell_set_ne n16.out c16, cell_set_ne n15'.out c15, cell_set_ne n7.out c7, cell_set_ne n2'.out c2⟩) (first | (go_at_call 35; (with_reducible refine (HN.out _).mono ?_); rintro e w' ⟨rfl, rfl⟩) | (go_at_call 36; (with_reducible refine (HF.out _).mono ?_); rintro e w' ⟨rfl, rfl⟩))
          clear c16 c15 c7 c2 cl fr w16 w15 w7 w2 b16 b15 b7 b2
          go_wp2
          go_roundw
          case rel =>
            refine ⟨k + 1, by omega, by omega, by go_num, ?_, ?_, ?_⟩
            · exact Row.other (w := wr) HR0.out _ _ (by simp)
            · have h := Row.ext (Row.set (w := wr) HR1.out k (W l k)) (WTo_step l k (W l k) rfl)
              rw [← HW.out] at h
              exact h
            · exact (Below.setCell (B := w.heap.size) (a := w) (w := wr) HBl.out (p := ⟨w.heap.size + 1, k, none⟩) (Nat.le_succ _) _).drew
          case measure => simp [intOf]; omega
        · obtain rfl : k = 64 := by omega
          have hfull : Row wr (w.heap.size + 1) 53 .u32 64 (W l) := Row.ext HR1.out (fun j hj => by unfold WTo; rw [if_pos hj])
          obtain ⟨cs, hcs⟩ : ∃ cs, Hid (cs = rowOf .u32 64 (W l)) := ⟨_, Lib.hid rfl⟩
          have hseg : Hid (∀ j v, cs[j]? = some v → wr.cell? ⟨w.heap.size + 1, 0 + j, none⟩ = some v) := by unfold Hid; rw [hcs.out]; exact hfull.seg
          have hsz : Hid ((Tryd.prog.info? 53).map (·.size) = some cs.length) := by unfold Hid; rw [hcs.out]; exact size53 _
          have hone : Hid (∀ v ∈ cs, v.oneCell' = true) := by unfold Hid; rw [hcs.out]; exact rowOf_one _ _ _
          have hlen : Hid (cs.length = 64) := by unfold Hid; rw [hcs.out, rowOf_length]
          have hfit : Hid (0 + cs.length ≤ (rowOf .u32 64 (fun _ => 0)).toArray.size) := by unfold Hid; rw [hlen.out, rowOf_size]; exact Nat.le_refl _
          go_wp2_with (first | (refine wpList_load_seg rfl 53 (.tmp 3) rfl (w.heap.size + 1) 0 rfl cs _ hseg.out Tryd.underlying53 rfl hsz.out ?_) | (refine wpList_store_seg rfl 53 (.tmp 2) (.tmp 65) rfl w.heap.size 0 rfl cs rfl _ 53 HR0.out hfit.out hone.out hsz.out ?_))
          have hsp : splice (rowOf .u32 64 (fun _ => 0)).toArray 0 cs = cs.toArray := splice_all _ _ (by rw [hlen.out, rowOf_size])
          rw [hsp]
          have hld : (loadVar 53 ⟨w.heap.size, 0, none⟩).run Tryd.prog (wr.setRow w.heap.size cs.toArray) = .ok (.agg cs.toArray) (wr.setRow w.heap.size cs.toArray) := by
            refine run_loadVar_seg _ 53 w.heap.size 0 cs _ (fun j v hv => ?_) Tryd.underlying53 rfl hsz.out
            rw [cell_of_row _ w.heap.size (0 + j) cs.toArray 53 (0, 0) (setRow_heap _ _ _ _ _ _ HR0.out), Nat.zero_add, List.getElem?_toArray, hv]
          have hbel : Below w.heap.size w (wr.setRow w.heap.size cs.toArray) := by
            exact HBl.out.trans ⟨rfl, rfl, rfl, by simp, fun k hk => setRow_other _ _ _ _ (by omega)⟩
          generalize wr.setRow w.heap.size cs.toArray = W2 at *
          exact bodyPost_ret (v := .agg cs.toArray) (results_cell rfl _ _ _ ⟨w.heap.size, 0, none⟩ rfl _ hld) rfl ⟨by rw [hcs.out, hl.out], hbel⟩
end Go.Proofs.YtjkbbndiickcnaaDoor
