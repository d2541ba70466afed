/- up of the document's package: a number of four words moved up by some bits. -/
import Derived.Test.YtnajglmabgofeaaLess
import Derived.BigRegion
import Derived.IntWalk
import Derived.Laws.Bits64b
namespace Go.Proofs.Ytnajglmabgofeaa
open Go.RowKit
set_option linter.unusedVariables false
def upTo (x : N4) (n k j : Nat) : Nat := if j < k then upW x n j else 0
theorem wrap64_shl (v r : Nat) : IntKind.u64.wrap ((v : Int) * 2 ^ r) = ((v * 2 ^ r % 18446744073709551616 : Nat) : Int) := by
  have h : IntKind.u64.wrap ((v : Int) * 2 ^ r) = ((v : Int) * 2 ^ r) % 18446744073709551616 := by simp [IntKind.wrap, IntKind.bits, IntKind.signed]
  rw [h, Int.natCast_emod, Int.natCast_mul, Int.natCast_pow]; rfl
theorem or64 (p v r : Nat) (hp : p < 18446744073709551616) (hv : v < 18446744073709551616) : bits .or .u64 (p : Int) ((v : Int) / 2 / 2 ^ r) = ((p ||| v / 2 / 2 ^ r : Nat) : Int) := by
  have h := bits_or_u64_nat p (v / 2 / 2 ^ r) hp (Nat.lt_of_le_of_lt (Nat.div_le_self _ _) (by omega))
  rw [← h, Int.natCast_ediv, Int.natCast_ediv, Int.natCast_pow]; rfl
theorem upTo_step (x : N4) (n k v : Nat) (hv : v = upW x n k) : ∀ j, j < 4 → upd (upTo x n k) k v j = upTo x n (k + 1) j := by
  intro j _
  unfold upd upTo
  by_cases e : j = k
  · subst e; rw [if_pos rfl, if_pos (by omega), hv]
  · rw [if_neg e]
    by_cases h : j < k
    · rw [if_pos h, if_pos (by omega)]
    · rw [if_neg h, if_neg (by omega)]
theorem upd_upd (f : Nat → Nat) (k u v : Nat) : upd (upd f k u) k v = upd f k v := by
  funext j
  unfold upd
  split <;> rfl
set_option maxRecDepth 100000 in
set_option maxHeartbeats 1000000 in
theorem up_walk (x : N4) (hx : x.ok) (n : Nat) (hn : n < 256) (w : World) :
    Calls Try.prog 29 #[.agg (num x), .int .i64 n] w fun e w' => e = .returned (.agg (rowOf .u64 4 (upW x n)).toArray) ∧ Below w.heap.size w w' := by
  obtain ⟨rx, hrx⟩ : ∃ rx, Hid (rx = rowOf .u64 4 (at4 x)) := ⟨_, Lib.hid rfl⟩
  unfold num
  rw [← hrx.out]
  obtain ⟨z4, hz4⟩ : ∃ z4 : List Value, Hid (z4 = rowOf .u64 4 (fun _ => 0)) := ⟨_, Lib.hid rfl⟩
  have hz47 : Hid (∀ w, (zeroValue 40).run Try.prog w = .ok (.agg z4.toArray) w) := by unfold Hid; rw [hz4.out]; exact zero47
  have HX := Lib.hid (at4_lt hx)
  clear hx
  obtain ⟨q, hq0⟩ : ∃ q, Hid (q = n / 64) := ⟨_, Lib.hid rfl⟩
  obtain ⟨r, hr0⟩ : ∃ r, Hid (r = n % 64) := ⟨_, Lib.hid rfl⟩
  have hq : (n : Int) / 64 = (q : Int) := by rw [hq0.out]; omega
  have hr : (n : Int) % 64 = (r : Int) := by rw [hr0.out]; omega
  have hq4 : q < 4 := by rw [hq0.out]; omega
  have hr64 : r < 64 := by rw [hr0.out]; omega
  have hW : ∀ w4 : World, w4 = ((w.alloc (.cells rx.toArray 40)).alloc (.cells z4.toArray 40)).alloc (.cells z4.toArray 40) →
      Row w4 w.heap.size 40 .u64 4 (at4 x) ∧ RowL w4 (w.heap.size + 1) 40 z4 ∧ Row w4 (w.heap.size + 1 + 1) 40 .u64 4 (upTo x n q) ∧ Below w.heap.size w w4 := by
    rintro w4 rfl
    refine ⟨?_, ?_, ?_, (((Below.refl _ w).alloc (Nat.le_refl _) _).alloc (by simp) _).alloc (by simp <;> omega) _⟩
    · rw [hrx.out]; exact ((Row.new w 40 .u64 4 (at4 x)).alloc _).alloc _
    · have h := RowL.new (w.alloc (.cells rx.toArray 40)) 40 z4
      rw [World.size_alloc] at h
      exact h.alloc _
    · have h := Row.new ((w.alloc (.cells rx.toArray 40)).alloc (.cells z4.toArray 40)) 40 .u64 4 (fun _ => 0)
      rw [World.size_alloc, World.size_alloc, ← hz4.out] at h
      refine h.ext (fun j hj => ?_)
      unfold upTo upW
      rw [← hq0.out]
      by_cases e : j < q
      · rw [if_pos e, if_pos e]
      · rw [if_neg e]
  go_enter Try.func29, Try.ntmps29
  go_wp2_with (refine wpList_run rfl _ (exec_alloc_agg _ 40 rfl _ (hz47.out _)) ?_)
  have hW2 := hW _ rfl
  obtain ⟨w4, hw4⟩ : ∃ w4, w4 = ((w.alloc (.cells rx.toArray 40)).alloc (.cells z4.toArray 40)).alloc (.cells z4.toArray 40) := ⟨_, rfl⟩
  rw [← hw4] at hW2 ⊢
  have HW := Lib.hid hW2
  clear hW hW2 hw4
  go_loopw [6, 7] (fun i k wr => ∃ i0 : Nat, q ≤ i0 ∧ i0 ≤ 4 ∧ i = .int .i64 i0 ∧ Row wr w.heap.size 40 .u64 4 (at4 x) ∧ RowL wr (w.heap.size + 1) 40 z4 ∧ Row wr (w.heap.size + 1 + 1) 40 .u64 4 (upTo x n i0) ∧ Below w.heap.size w wr) (fun i _ _ => 4 - (intOf i).toNat)
  case atStart => exact ⟨q, by omega, by omega, rfl, HW.out⟩
  case round =>
    clear HW
    obtain ⟨i0, hi1, hi2, rfl, h0, h1, h2, hbl⟩ := hrel
    have R0 := Lib.hid h0
    have R1 := Lib.hid h1
    have R2 := Lib.hid h2
    have HB := Lib.hid hbl
    clear h0 h1 h2 hbl
    by_cases hlt : i0 < 4
    · obtain ⟨k, hk0⟩ : ∃ k, Hid (k = i0 - q) := ⟨_, Lib.hid rfl⟩
      have hkle : k + q = i0 := by rw [hk0.out]; omega
      have HKQ := Lib.hid hkle
      have hk : IntKind.i64.wrap ((i0 : Int) - (q : Int)) = (k : Int) := by rw [IntWalk.i64_in _ (by omega)]; omega
      have hk2 : (i0 : Int) - (q : Int) = (k : Int) := by omega
      have hk4 : (k : Int) < 4 := by omega
      have hkn : k < 4 := by omega
      clear hkle
      have hi4 : (i0 : Int) < 4 := by omega
      have ck : wr.cell? ⟨w.heap.size, k, none⟩ = some (.int .u64 (at4 x k)) := R0.out.cell k hkn
      have ci : wr.cell? ⟨w.heap.size + 1 + 1, i0, none⟩ = some (.int .u64 (upTo x n i0 i0)) := R2.out.cell i0 hlt
      have fi : wr.frozen? ⟨w.heap.size + 1 + 1, i0, none⟩ = false := R2.out.free i0
      obtain ⟨p, hp0⟩ : ∃ p, Hid (p = at4 x k * 2 ^ r % 18446744073709551616) := ⟨_, Lib.hid rfl⟩
      have hp : IntKind.u64.wrap ((at4 x k : Int) * 2 ^ r) = (p : Int) := by rw [wrap64_shl, hp0.out]
      have hpl : Hid (p < 18446744073709551616) := by unfold Hid; rw [hp0.out]; exact Nat.mod_lt _ (by decide)
      have ROLD := Lib.hid (Row.set (w := wr) R2.out i0 p)
      generalize upTo x n i0 i0 = old at *
      go_upto_region 7 with (fail)
      have h0' : Row (wr.setCell ⟨w.heap.size + 1 + 1, i0, none⟩ (.int .u64 p)) w.heap.size 40 .u64 4 (at4 x) := R0.out.other _ _ (by show w.heap.size ≠ w.heap.size + 1 + 1; omega)
      have h1' : RowL (wr.setCell ⟨w.heap.size + 1 + 1, i0, none⟩ (.int .u64 p)) (w.heap.size + 1) 40 z4 := by
        unfold RowL
        rw [heap_setCell_other _ _ _ _ (by show w.heap.size + 1 ≠ w.heap.size + 1 + 1; omega)]
        exact R1.out
      have hb' : Below w.heap.size w (wr.setCell ⟨w.heap.size + 1 + 1, i0, none⟩ (.int .u64 p)) := HB.out.setCell (p := ⟨w.heap.size + 1 + 1, i0, none⟩) (by show w.heap.size ≤ w.heap.size + 1 + 1; omega) _
      have h2' := ROLD.out
      obtain ⟨w7, hw7⟩ : ∃ w7, w7 = wr.setCell ⟨w.heap.size + 1 + 1, i0, none⟩ (.int .u64 p) := ⟨_, rfl⟩
      rw [← hw7] at h0' h1' hb' h2' ⊢
      have S0 := Lib.hid h0'
      have S1 := Lib.hid h1'
      have S2 := Lib.hid h2'
      have SB := Lib.hid hb'
      clear h0' h1' h2' hb' hw7 ROLD R0 R1 R2 HB ck ci fi hp
      by_cases hk0' : k = 0
      · have hkk : decide ((0 : Int) < (k : Int)) = false := by simp; omega
        have hkI : ¬ ((0 : Int) < (k : Int)) := by omega
        have HU : Hid (p = upW x n i0) := by
          unfold Hid upW
          have hq1 : i0 = q := by have := HKQ.out; omega
          rw [← hq0.out, ← hr0.out, hq1, if_neg (by omega), if_pos rfl, hp0.out, hk0']
        clear hk0'
        go_wp2
        go_roundw
        case rel => exact ⟨i0 + 1, by omega, by omega, by go_num, S0.out, S1.out, S2.out.ext (upTo_step x n i0 p HU.out), SB.out⟩
        case measure => simp [intOf]; omega
      · have hkk : decide ((0 : Int) < (k : Int)) = true := by simp; omega
        have hkI : (0 : Int) < (k : Int) := by omega
        obtain ⟨j, hj0⟩ : ∃ j, Hid (j = k - 1) := ⟨_, Lib.hid rfl⟩
        have hj1 : IntKind.i64.wrap ((k : Int) - 1) = (j : Int) := by rw [IntWalk.i64_in _ (by omega), hj0.out]; omega
        have hj2 : (k : Int) - 1 = (j : Int) := by rw [hj0.out]; omega
        have hj4 : (j : Int) < 4 := by omega
        have hjn : j < 4 := by omega
        have cj : w7.cell? ⟨w.heap.size, j, none⟩ = some (.int .u64 (at4 x j)) := S0.out.cell j hjn
        have ci : w7.cell? ⟨w.heap.size + 1 + 1, i0, none⟩ = some (.int .u64 p) := by rw [S2.out.cell i0 hlt]; unfold upd; rw [if_pos rfl]
        have fi : w7.frozen? ⟨w.heap.size + 1 + 1, i0, none⟩ = false := S2.out.free i0
        have hv := HX.out j
        have HU : Hid ((p ||| at4 x j / 2 / 2 ^ (63 - r)) = upW x n i0) := by
          unfold Hid upW
          have hq1 := HKQ.out
          rw [← hq0.out, ← hr0.out, if_neg (by omega), if_neg (by omega), hp0.out, show i0 - q = k by omega, show k - 1 = j by rw [hj0.out]]
        have hor := or64 p (at4 x j) (63 - r) hpl.out hv
        obtain ⟨o, ho0⟩ : ∃ o, Hid (o = (p ||| at4 x j / 2 / 2 ^ (63 - r))) := ⟨_, Lib.hid rfl⟩
        rw [← ho0.out] at hor HU
        have ROLD : Hid (Row (w7.setCell ⟨w.heap.size + 1 + 1, i0, none⟩ (.int .u64 o)) (w.heap.size + 1 + 1) 40 .u64 4 (upTo x n (i0 + 1))) := by
          have h1 := Row.set (w := w7) S2.out i0 o
          rw [upd_upd] at h1
          exact h1.ext (upTo_step x n i0 o HU.out)
        generalize at4 x j = v2 at *
        have h63 : IntKind.i64.wrap (63 - (r : Int)) = ((63 - r : Nat) : Int) := by
          rw [IntWalk.i64_in _ (by omega)]
          omega
        clear hk0' hv
        go_wp2
        go_region
        all_goals
          go_wp2
          go_roundw
          case rel =>
            refine ⟨i0 + 1, by omega, by omega, by go_num, ?_, ?_, ROLD.out, (SB.out.setCell (p := ⟨w.heap.size + 1 + 1, i0, none⟩) (by show w.heap.size ≤ w.heap.size + 1 + 1; omega) _).drew⟩
            · exact Row.other (w := w7) S0.out _ _ (by show w.heap.size ≠ w.heap.size + 1 + 1; omega)
            · have h : RowL (w7.setCell ⟨w.heap.size + 1 + 1, i0, none⟩ (.int .u64 o)) (w.heap.size + 1) 40 z4 := by
                unfold RowL
                rw [heap_setCell_other _ _ _ _ (by show w.heap.size + 1 ≠ w.heap.size + 1 + 1; omega)]
                exact S1.out
              exact h
          case measure => simp [intOf]; omega
    · obtain rfl : i0 = 4 := by omega
      obtain ⟨cs, hcs⟩ : ∃ cs, Hid (cs = rowOf .u64 4 (upW x n)) := ⟨_, Lib.hid rfl⟩
      have hrow : RowL wr (w.heap.size + 1 + 1) 40 cs := by
        rw [hcs.out]
        exact R2.out.ext (fun j hj => by unfold upTo; rw [if_pos hj])
      have HROW := Lib.hid hrow
      have hsz : Hid ((Try.prog.info? 40).map (·.size) = some cs.length) := by unfold Hid; rw [hcs.out]; exact size47 _
      have hone : Hid (∀ v ∈ cs, v.oneCell' = true) := by unfold Hid; rw [hcs.out]; exact rowOf_one _ _ _
      have hfit2 : Hid (z4.toArray.size = cs.length) := by unfold Hid; rw [hz4.out, hcs.out, rowOf_size, rowOf_length]
      clear hrow R2
      rw [show ((4 : Nat) : Int) = (4 : Int) from rfl]
      go_wp2_with (first | (refine wpList_load_seg rfl 40 (.tmp 5) rfl (w.heap.size + 1 + 1) 0 rfl cs _ HROW.out.seg Try.underlying40 rfl hsz.out ?_) | (refine wpList_store_seg rfl 40 (.tmp 4) (.tmp 42) rfl (w.heap.size + 1) 0 rfl cs rfl _ 40 R1.out (by rw [Nat.zero_add, hfit2.out]; exact Nat.le_refl _) hone.out hsz.out ?_))
      rw [splice_all _ _ hfit2.out]
      have hld := run_loadVar_seg (P := Try.prog) (wr.setRow (w.heap.size + 1) cs.toArray) 40 (w.heap.size + 1) 0 cs _ (R1.out.setRow cs).seg Try.underlying40 rfl hsz.out
      have hbel : Below w.heap.size w (wr.setRow (w.heap.size + 1) cs.toArray) := HB.out.trans ⟨rfl, rfl, rfl, by simp, fun k hk => setRow_other _ _ _ _ (by omega)⟩
      generalize wr.setRow (w.heap.size + 1) cs.toArray = W2 at *
      exact bodyPost_ret (v := .agg cs.toArray) (results_cell rfl _ _ _ ⟨w.heap.size + 1, 0, none⟩ rfl _ hld) rfl ⟨by rw [hcs.out], hbel⟩
theorem upL_row (x : N4) (n : Nat) : rowOf .u64 4 (upW x n) = rowOf .u64 4 (at4 (upL x n)) := by
  refine rowOf_ext (fun j hj => ?_)
  unfold upL
  rw [mk4_eq]
  rcases (show j = 0 ∨ j = 1 ∨ j = 2 ∨ j = 3 by omega) with rfl | rfl | rfl | rfl <;> rfl
theorem upW_lt (x : N4) (hx : x.ok) (n i : Nat) : upW x n i < 18446744073709551616 := by
  unfold upW
  split
  · omega
  · split
    · exact Nat.mod_lt _ (by decide)
    · refine Nat.or_lt_two_pow (n := 64) (Nat.mod_lt _ (by decide)) ?_
      refine Nat.lt_of_le_of_lt (Nat.le_trans (Nat.div_le_self _ _) (Nat.div_le_self _ _)) (at4_lt hx _)
theorem upL_ok (x : N4) (hx : x.ok) (n : Nat) : (upL x n).ok := by
  unfold upL
  rw [mk4_eq]
  exact ⟨upW_lt x hx n 0, upW_lt x hx n 1, upW_lt x hx n 2, upW_lt x hx n 3⟩
theorem up_any (x : N4) (hx : x.ok) (n : Nat) (hn : n < 256) (w : World) :
    Calls Try.prog 29 #[.agg (num x), .int .i64 n] w fun e w' => e = .returned (.agg (num (upL x n))) ∧ Below w.heap.size w w' := by
  have h := up_walk x hx n hn w
  rw [upL_row] at h
  exact h
end Go.Proofs.Ytnajglmabgofeaa
