/- The eighty numbers that a block is made into, of package wide. At a block of 128 bytes. -/
import Derived.Test.YtnajglmabgofeaaCells
import Derived.StillTailTactics
namespace Go.Proofs.Ytnajglmabgofeaa
open Go.RowKit
set_option linter.unusedVariables false
theorem zero63 (w : World) : (zeroValue 63).run Try.prog w = .ok (.agg (rowOf .u64 80 (fun _ => 0)).toArray) w := by rw [← replicate_rowOf]; kernel_rfl
theorem size63 (f : Nat → Nat) : (Try.prog.info? 63).map (·.size) = some (rowOf .u64 80 f).length := by rw [rowOf_length]; kernel_rfl
/-- The first m bytes of group i, the highest first. -/
def pb (l : List UInt8) (i : Nat) : Nat → Nat
  | 0 => 0
  | m + 1 => pb l i m * 256 + (l.getD (8 * i + m) 0).toNat
theorem pb_lt (l : List UInt8) (i : Nat) : ∀ m, pb l i m < 256 ^ m
  | 0 => by show 0 < 1; omega
  | m + 1 => by
    have h := pb_lt l i m
    have hc := (l.getD (8 * i + m) 0).toNat_lt
    show pb l i m * 256 + _ < 256 ^ m * 256
    omega
theorem pb_be (l : List UInt8) (i : Nat) : pb l i 8 = be l i := by
  simp only [pb, be, Nat.add_zero]
  omega
/-- What stands in the words once k bytes are in. -/
def WP (l : List UInt8) (k j : Nat) : Nat := pb l j (min 8 (k - 8 * j))
theorem WP_step (l : List UInt8) (k : Nat) (v : Nat) (hv : v = pb l (k / 8) (k % 8) * 256 + (l.getD k 0).toNat) : ∀ j, j < 80 → upd (WP l k) (k / 8) v j = WP l (k + 1) j := by
  intro j _
  unfold upd WP
  by_cases e : j = k / 8
  · rw [if_pos e, hv, e, show min 8 (k + 1 - 8 * (k / 8)) = k % 8 + 1 by omega]
    show _ = pb l (k / 8) (k % 8) * 256 + (l.getD (8 * (k / 8) + k % 8) 0).toNat
    rw [show 8 * (k / 8) + k % 8 = k by omega]
  · rw [if_neg e, show min 8 (k + 1 - 8 * j) = min 8 (k - 8 * j) by omega]
/-- What stands in the words once k of them are made. -/
def WTo (l : List UInt8) (k j : Nat) : Nat := if j < k then W l j else 0
theorem WTo_step (l : List UInt8) (k : Nat) (v : Nat) (hv : v = W l k) : ∀ j, j < 80 → upd (WTo l k) k v j = WTo l (k + 1) j := by
  intro j _
  unfold upd WTo
  by_cases e : j = k
  · subst e; rw [if_pos rfl, if_pos (by omega), hv]
  · rw [if_neg e]
    by_cases h : j < k
    · rw [if_pos h, if_pos (by omega)]
    · rw [if_neg h, if_neg (by omega)]
theorem WP_end (l : List UInt8) : ∀ j, j < 80 → WP l 128 j = WTo l 16 j := by
  intro j _
  unfold WP WTo
  by_cases h : j < 16
  · rw [if_pos h, W_low l j h, ← pb_be, show min 8 (128 - 8 * j) = 8 by omega]
  · rw [if_neg h, show min 8 (128 - 8 * j) = 0 by omega]; rfl
theorem WP_now (l : List UInt8) (k : Nat) : WP l k (k / 8) = pb l (k / 8) (k % 8) := by
  unfold WP
  rw [show min 8 (k - 8 * (k / 8)) = k % 8 by omega]
theorem or_low (N c : Nat) (hN : N < 72057594037927936) (hc : c < 256) : bits .or .u64 ((N * 256 : Nat) : Int) (c : Int) = ((N * 256 + c : Nat) : Int) := by
  rw [bits_or_u64_nat (N * 256) c (by omega) (by omega)]
  have h := Nat.two_pow_add_eq_or_of_lt (i := 8) (b := c) (by omega) N
  rw [show N * 256 = 2 ^ 8 * N by omega, h]
set_option maxRecDepth 100000 in
set_option maxHeartbeats 1000000 in
theorem words_any (s : ByteArray) (hs : s.size = 128) (w : World) :
    Calls Try.prog 35 #[.string s] w fun e w' => e = .returned (.agg (rowOf .u64 80 (W s.data.toList)).toArray) ∧ Below w.heap.size w w' := by
  have HS := Lib.hid hs
  have hs1 : s.size ≤ 128 := by omega
  have hs2 : 128 ≤ s.size := by omega
  clear hs
  obtain ⟨l, hl⟩ : ∃ l, Hid (l = s.data.toList) := ⟨_, Lib.hid rfl⟩
  go_enter Try.func35, Try.ntmps35
  go_wp2_with (refine wpList_run rfl _ (exec_alloc_agg _ 63 rfl _ (zero63 _)) ?_)
  go_loopw [4, 6] (fun a k0 wr => ∃ k : Nat, k ≤ 128 ∧ k0 = .int .i64 k ∧ Row wr w.heap.size 63 .u64 80 (fun _ => 0) ∧ Row wr (w.heap.size + 1) 63 .u64 80 (WP l k) ∧ Below w.heap.size w wr) (fun _ k _ => 128 - (intOf k).toNat)
  case atStart =>
    refine ⟨0, by omega, rfl, (Row.new w 63 .u64 80 _).alloc _, ?_, ((Below.refl _ w).alloc (Nat.le_refl _) _).alloc (by simp) _⟩
    have := Row.new (w.alloc (.cells (rowOf .u64 80 (fun _ => 0)).toArray 63)) 63 .u64 80 (fun _ => 0)
    rw [World.size_alloc] at this
    refine Row.ext this (fun j _ => ?_)
    unfold WP
    rw [show min 8 (0 - 8 * j) = 0 by omega]; rfl
  case round =>
    obtain ⟨k, hk, rfl, hR0, hR1, hB⟩ := hrel
    have HR0 := Lib.hid hR0
    have HR1 := Lib.hid hR1
    have HBl := Lib.hid hB
    have hz : w.heap.size + 1 < wr.heap.size := hR1.lt
    clear hR0 hR1 hB
    by_cases hlt : k < 128
    · obtain ⟨q, hq0⟩ : ∃ q, q = k / 8 := ⟨_, rfl⟩
      have hq1 : (k : Int) / 8 = (q : Int) := by omega
      have hq2 : Int.tdiv (k : Int) 8 = (q : Int) := by rw [Int.tdiv_eq_ediv_of_nonneg (by omega)]; exact hq1
      have hq16 : q < 16 := by omega
      have hqI : (q : Int) < 80 := by omega
      obtain ⟨N, hN⟩ : ∃ N, Hid (N = pb l q (k % 8)) := ⟨_, Lib.hid rfl⟩
      have hNlt : Hid (N < 72057594037927936) := by
        unfold Hid
        rw [hN.out]
        exact Nat.lt_of_lt_of_le (pb_lt l q (k % 8)) (Nat.le_trans (Nat.pow_le_pow_right (by decide) (show k % 8 ≤ 7 by omega)) (by decide))
      obtain ⟨c, hc0⟩ : ∃ c, c = s[k].toNat := ⟨_, rfl⟩
      have hc : c < 256 := by rw [hc0]; exact UInt8.toNat_lt _
      have hcc : s[k].toNat = c := hc0.symm
      have hcl : (l.getD k 0).toNat = c := by
        rw [hc0, hl.out, List.getD_eq_getElem?_getD, List.getElem?_eq_getElem (show k < s.data.toList.length by show k < s.size; omega)]
        rfl
      have hor := or_low N c hNlt.out hc
      obtain ⟨M, hM⟩ : ∃ M, Hid (M = N * 256) := ⟨_, Lib.hid rfl⟩
      have hsh : IntKind.u64.wrap ((N : Int) * 2 ^ 8) = (M : Int) := by
        have h2 := hNlt.out
        rw [shl_cast N 8, hM.out]
        omega
      have hsh2 : IntKind.u64.wrap ((N : Int) * 256) = (M : Int) := hsh
      rw [← hM.out] at hor
      obtain ⟨R, hR⟩ : ∃ R, Hid (R = M + c) := ⟨_, Lib.hid rfl⟩
      rw [← hR.out] at hor
      have HST : Hid (∀ j, j < 80 → upd (WP l k) q R j = WP l (k + 1) j) := by
        have h := WP_step l k R (by rw [hR.out, hM.out, hN.out, hcl, hq0])
        rw [← hq0] at h
        exact h
      have cl : wr.cell? ⟨w.heap.size + 1, q, none⟩ = some (.int .u64 N) := by
        rw [HR1.out.cell q (by omega), hN.out, hq0, WP_now]
      have fr : wr.frozen? ⟨w.heap.size + 1, q, none⟩ = false := HR1.out.free q
      have hltI : (k : Int) < s.size := by omega
      clear hN hNlt hM hR hcl hc0 hq0
      go_wp2
      go_region
      all_goals
        go_wp2
        go_roundw
        case rel =>
          refine ⟨k + 1, by omega, by go_num, ?_, ?_, ?_⟩
          · exact Row.other (w := wr) HR0.out _ _ (by simp)
          · exact Row.ext (Row.set (w := wr) HR1.out q R) HST.out
          · exact (Below.setCell (B := w.heap.size) (a := w) (w := wr) HBl.out (p := ⟨w.heap.size + 1, q, none⟩) (Nat.le_succ _) _).drew
        case measure => simp [intOf]; omega
    · obtain rfl : k = 128 := by omega
      have HR1 : Hid (Row wr (w.heap.size + 1) 63 .u64 80 (WTo l 16)) := Row.ext HR1.out (WP_end l)
      rw [show ((128 : Nat) : Int) = (128 : Int) from rfl]
      go_wp2
      obtain ⟨wo, rfl⟩ : ∃ wo : World, wo = wr := ⟨_, rfl⟩
      go_loopw [5] (fun i wr => ∃ k : Nat, 16 ≤ k ∧ k ≤ 80 ∧ i = .int .i64 k ∧ Row wr w.heap.size 63 .u64 80 (fun _ => 0) ∧ Row wr (w.heap.size + 1) 63 .u64 80 (WTo l k) ∧ Below w.heap.size w wr) (fun i _ => 80 - (intOf i).toNat)
      case atStart => exact ⟨16, by omega, by omega, rfl, HR0.out, HR1.out, HBl.out⟩
      case round =>
        clear HR0 HR1 HBl hz
        obtain ⟨k, hk1, hk, rfl, hR0, hR1, hB⟩ := hrel
        have HR0 := Lib.hid hR0
        have HR1 := Lib.hid hR1
        have HBl := Lib.hid hB
        have hz : w.heap.size + 1 < wr.heap.size := hR1.lt
        clear hR0 hR1 hB
        by_cases hlt2 : k < 80
        · have hk80 : (k : Int) < 80 := by omega
          obtain ⟨j16, hj16⟩ : ∃ j, j = k - 16 := ⟨_, rfl⟩
          have w16 : IntKind.i64.wrap ((k : Int) - 16) = (j16 : Int) := by rw [IntWalk.i64_in _ (by omega)]; omega
          have b16 : (j16 : Int) < 80 := by omega
          have c16 : wr.cell? ⟨w.heap.size + 1, j16, none⟩ = some (.int .u64 (W l j16)) := by rw [HR1.out.cell j16 (by omega)]; unfold WTo; rw [if_pos (by omega)]
          obtain ⟨j15, hj15⟩ : ∃ j, j = k - 15 := ⟨_, rfl⟩
          have w15 : IntKind.i64.wrap ((k : Int) - 15) = (j15 : Int) := by rw [IntWalk.i64_in _ (by omega)]; omega
          have b15 : (j15 : Int) < 80 := by omega
          have c15 : wr.cell? ⟨w.heap.size + 1, j15, none⟩ = some (.int .u64 (W l j15)) := by rw [HR1.out.cell j15 (by omega)]; unfold WTo; rw [if_pos (by omega)]
          obtain ⟨j7, hj7⟩ : ∃ j, j = k - 7 := ⟨_, rfl⟩
          have w7 : IntKind.i64.wrap ((k : Int) - 7) = (j7 : Int) := by rw [IntWalk.i64_in _ (by omega)]; omega
          have b7 : (j7 : Int) < 80 := by omega
          have c7 : wr.cell? ⟨w.heap.size + 1, j7, none⟩ = some (.int .u64 (W l j7)) := by rw [HR1.out.cell j7 (by omega)]; unfold WTo; rw [if_pos (by omega)]
          obtain ⟨j2, hj2⟩ : ∃ j, j = k - 2 := ⟨_, rfl⟩
          have w2 : IntKind.i64.wrap ((k : Int) - 2) = (j2 : Int) := by rw [IntWalk.i64_in _ (by omega)]; omega
          have b2 : (j2 : Int) < 80 := by omega
          have c2 : wr.cell? ⟨w.heap.size + 1, j2, none⟩ = some (.int .u64 (W l j2)) := by rw [HR1.out.cell j2 (by omega)]; unfold WTo; rw [if_pos (by omega)]
          have cl : wr.cell? ⟨w.heap.size + 1, k, none⟩ = some (.int .u64 (WTo l k k)) := HR1.out.cell k (by omega)
          have fr : wr.frozen? ⟨w.heap.size + 1, k, none⟩ = false := HR1.out.free k
          have HW : Hid (add (add (add (W l j16) (nearN (W l j15))) (W l j7)) (farN (W l j2)) = W l k) := by unfold Hid; rw [hj16, hj15, hj7, hj2]; exact (W_high l k hk1).symm
          have HN := Lib.hid (near_any (W l j15) (W_lt l _))
          have HF := Lib.hid (far_any (W l j2) (W_lt l _))
          have n16 : Hid (j16 ≠ k) := Lib.hid (by omega)
          clear hj16
          have n15' : Hid (j15 ≠ k) := Lib.hid (by omega)
          clear hj15
          have n7 : Hid (j7 ≠ k) := Lib.hid (by omega)
          clear hj7
          have n2' : Hid (j2 ≠ k) := Lib.hid (by omega)
          clear hj2
          generalize W l j16 = a16 at *
          generalize nearN (W l j15) = n15 at *
          generalize W l j15 = a15 at *
          generalize W l j7 = a7 at *
          generalize farN (W l j2) = n2 at *
          generalize W l j2 = a2 at *
          generalize WTo l k k = old at *
          go_wp2
          go_region_held3 (fun w' => w'.cell? ⟨w.heap.size + 1, j16, none⟩ = some (.int .u64 a16) ∧ w'.cell? ⟨w.heap.size + 1, j15, none⟩ = some (.int .u64 a15) ∧ w'.cell? ⟨w.heap.size + 1, j7, none⟩ = some (.int .u64 a7) ∧ w'.cell? ⟨w.heap.size + 1, j2, none⟩ = some (.int .u64 a2)) (first | exact ⟨c16, c15, c7, c2⟩ | exact ⟨cell_set_ne n16.out c16, cell_set_ne n15'.out c15, cell_set_ne n7.out c7, cell_set_ne n2'.out c2⟩) (first | (go_at_call 37; (with_reducible refine (HN.out _).mono ?_); rintro e w' ⟨rfl, rfl⟩) | (go_at_call 38; (with_reducible refine (HF.out _).mono ?_); rintro e w' ⟨rfl, rfl⟩))
          clear c16 c15 c7 c2 cl fr w16 w15 w7 w2 b16 b15 b7 b2
          go_wp2
          go_roundw
          case rel =>
            refine ⟨k + 1, by omega, by omega, by go_num, ?_, ?_, ?_⟩
            · exact Row.other (w := wr) HR0.out _ _ (by simp)
            · have h := Row.ext (Row.set (w := wr) HR1.out k (W l k)) (WTo_step l k (W l k) rfl)
              rw [← HW.out] at h
              exact h
            · exact (Below.setCell (B := w.heap.size) (a := w) (w := wr) HBl.out (p := ⟨w.heap.size + 1, k, none⟩) (Nat.le_succ _) _).drew
          case measure => simp [intOf]; omega
        · obtain rfl : k = 80 := by omega
          have hfull : Row wr (w.heap.size + 1) 63 .u64 80 (W l) := Row.ext HR1.out (fun j hj => by unfold WTo; rw [if_pos hj])
          obtain ⟨cs, hcs⟩ : ∃ cs, Hid (cs = rowOf .u64 80 (W l)) := ⟨_, Lib.hid rfl⟩
          have hseg : Hid (∀ j v, cs[j]? = some v → wr.cell? ⟨w.heap.size + 1, 0 + j, none⟩ = some v) := by unfold Hid; rw [hcs.out]; exact hfull.seg
          have hsz : Hid ((Try.prog.info? 63).map (·.size) = some cs.length) := by unfold Hid; rw [hcs.out]; exact size63 _
          have hone : Hid (∀ v ∈ cs, v.oneCell' = true) := by unfold Hid; rw [hcs.out]; exact rowOf_one _ _ _
          have hlen : Hid (cs.length = 80) := by unfold Hid; rw [hcs.out, rowOf_length]
          have hfit : Hid (0 + cs.length ≤ (rowOf .u64 80 (fun _ => 0)).toArray.size) := by unfold Hid; rw [hlen.out, rowOf_size]; exact Nat.le_refl _
          go_wp2_with (first | (refine wpList_load_seg rfl 63 (.tmp 3) rfl (w.heap.size + 1) 0 rfl cs _ hseg.out Try.underlying63 rfl hsz.out ?_) | (refine wpList_store_seg rfl 63 (.tmp 2) (.tmp 50) rfl w.heap.size 0 rfl cs rfl _ 63 HR0.out hfit.out hone.out hsz.out ?_))
          have hsp : splice (rowOf .u64 80 (fun _ => 0)).toArray 0 cs = cs.toArray := splice_all _ _ (by rw [hlen.out, rowOf_size])
          rw [hsp]
          have hld : (loadVar 63 ⟨w.heap.size, 0, none⟩).run Try.prog (wr.setRow w.heap.size cs.toArray) = .ok (.agg cs.toArray) (wr.setRow w.heap.size cs.toArray) := by
            refine run_loadVar_seg _ 63 w.heap.size 0 cs _ (fun j v hv => ?_) Try.underlying63 rfl hsz.out
            rw [cell_of_row _ w.heap.size (0 + j) cs.toArray 63 (0, 0) (setRow_heap _ _ _ _ _ _ HR0.out), Nat.zero_add, List.getElem?_toArray, hv]
          have hbel : Below w.heap.size w (wr.setRow w.heap.size cs.toArray) := by
            exact HBl.out.trans ⟨rfl, rfl, rfl, by simp, fun k hk => setRow_other _ _ _ _ (by omega)⟩
          generalize wr.setRow w.heap.size cs.toArray = W2 at *
          exact bodyPost_ret (v := .agg cs.toArray) (results_cell rfl _ _ _ ⟨w.heap.size, 0, none⟩ rfl _ hld) rfl ⟨by rw [hcs.out, hl.out], hbel⟩
end Go.Proofs.Ytnajglmabgofeaa
