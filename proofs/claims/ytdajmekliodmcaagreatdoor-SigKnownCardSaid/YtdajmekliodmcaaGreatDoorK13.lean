/- Several texts, one behind the other; each says by itself what it proves, and on what conditions. -/
import Derived.Test.YtdajmekliodmcaaGreatDoorK12
import Derived.Laws.Externs
import Derived.Deep.RegionHeld3
import Derived.Deep.CutBlock
import Derived.Deep.DeepCutAuto
import Derived.BigRegion
import Derived.IntWalk
import Derived.Laws.Bits64b
import Derived.OrdersHeld
import Derived.Still
import Derived.StillTail
import Derived.RangeFuncNested
import Derived.RangeFuncBound
import Derived.RangeFuncCalls
import Derived.RangeFuncLeaves
import Derived.RangeFuncFrom
import Derived.Shelf.Abstract
import Derived.Shelf.RegionOpen
import Derived.OwnWalkIn
import Derived.TacticsInMore
import Derived.LoopNIn
import Derived.LoopIn
import Derived.RegionIn
namespace Go.Proofs.YtdajmekliodmcaaGreatDoor.W4
set_option linter.unusedSimpArgs false
open Go.Proofs.YtdajmekliodmcaaGreatDoor.P8
open Go.RowKit
set_option linter.unusedVariables false
theorem add64_run (x y c : Nat) (hc : c ≤ 1) (W : World) : (callFunc 124 #[.int .u64 x, .int .u64 y, .int .u64 c]).run Tryz.prog W =
    .ok (.value (.tuple #[.int .u64 (((x + y + c) % 18446744073709551616 : Nat) : Int), .int .u64 (((x + y + c) / 18446744073709551616 : Nat) : Int)])) W := by
  rw [run_callFunc_extern (e := add64Entry) Tryz.func124 (by kernel_rfl) (by kernel_rfl) (by kernel_rfl) (by kernel_rfl), run_add64 x y c (by omega) (by omega) (by omega) (by omega)]
  simp only [Result.andThen]
  congr 1
def l3 (x : L3) : List Value := [.int .u64 x.a, .int .u64 x.b, .int .u64 x.c]
def L3.ok (x : L3) : Prop := x.a < 18446744073709551616 ∧ x.b < 18446744073709551616 ∧ x.c < 18446744073709551616
set_option maxRecDepth 100000 in
set_option maxHeartbeats 1000000 in
theorem times_any (x : L3) (hx : x.ok) (n : Nat) (hn : n < 18446744073709551616) (w : World) :
    Calls Tryz.prog 154 #[.agg (l3 x).toArray, .int .u64 n] w fun e w' => e = .returned (.tuple #[.agg (l3 (timesL x n)).toArray, .int .u64 (timesO x n)]) ∧ Below w.heap.size w w' := by
  have HM1 := Lib.hid (mul64_any x.a n hx.1 hn)
  have HM2 := Lib.hid (mul64_any x.b n hx.2.1 hn)
  have HM3 := Lib.hid (mul64_any x.c n hx.2.2 hn)
  have hcy : tmMid x n / 18446744073709551616 ≤ 1 := by
    have h1 := mulHi_lt hx.1 hn
    have h2 := mulLo_lt x.b n
    unfold tmMid
    omega
  have A1 := fun W => add64_run (mulHi x.a n) (mulLo x.b n) 0 (by omega) W
  have A2 := fun W => add64_run (mulHi x.b n) (mulLo x.c n) (tmMid x n / 18446744073709551616) hcy W
  have hW : IntKind.u64.wrap (((mulHi x.c n : Nat) : Int) + ((tmHigh x n / 18446744073709551616 : Nat) : Int)) = ((timesO x n : Nat) : Int) := wrapM _
  rw [Nat.add_zero] at A1
  rw [show mulHi x.a n + mulLo x.b n = tmMid x n from rfl] at A1
  rw [show mulHi x.b n + mulLo x.c n + tmMid x n / 18446744073709551616 = tmHigh x n from rfl] at A2
  obtain ⟨T, hT⟩ : ∃ T, Hid (T = timesL x n) := ⟨_, Lib.hid rfl⟩
  have hTa : mulLo x.a n = T.a := by rw [hT.out]; rfl
  have hTb : tmMid x n % 18446744073709551616 = T.b := by rw [hT.out]; rfl
  have hTc : tmHigh x n % 18446744073709551616 = T.c := by rw [hT.out]; rfl
  rw [← hT.out]
  rw [hTa] at HM1
  rw [hTb] at A1
  rw [hTc] at A2
  clear hTa hTb hTc hT
  generalize timesO x n = O at *
  generalize mulHi x.a n = a1 at *
  generalize mulHi x.b n = b1 at *
  generalize mulHi x.c n = c1 at *
  generalize mulLo x.b n = b0 at *
  generalize mulLo x.c n = c0 at *
  generalize tmMid x n / 18446744073709551616 = cy at *
  generalize tmHigh x n / 18446744073709551616 = cz at *
  have A1' : ∀ W, (callFunc 124 #[.int .u64 a1, .int .u64 b0, .int .u64 0]).run Tryz.prog W = .ok (.value (.tuple #[.int .u64 (T.b : Int), .int .u64 (cy : Int)])) W := A1
  clear A1 hcy
  unfold l3
  go_enter Tryz.func154, Tryz.ntmps154
  go_wp2_with fail
  refine (HM1.out _).mono ?_
  rintro e w' ⟨rfl, rfl⟩
  go_wp2_with fail
  refine (HM2.out _).mono ?_
  rintro e w' ⟨rfl, rfl⟩
  go_wp2_with fail
  refine (HM3.out _).mono ?_
  rintro e w' ⟨rfl, rfl⟩
  go_wp2_with fail
  have hld : ∀ W : World, (loadVar 160 ⟨W.heap.size, 0, none⟩).run Tryz.prog (W.alloc (.cells (l3 T).toArray 160)) = .ok (.agg (l3 T).toArray) (W.alloc (.cells (l3 T).toArray 160)) := by
    intro W
    refine run_loadVar_seg _ 160 W.heap.size 0 (l3 T) _ (fun j v hv => ?_) Tryz.underlying160 rfl (by kernel_rfl)
    rw [cell_of_row _ W.heap.size (0 + j) (l3 T).toArray 160 (0, 0) (heap_alloc_new _ _), Nat.zero_add, List.getElem?_toArray, hv]
  have h := hld (w.alloc (.cells #[.int .u64 x.a, .int .u64 x.b, .int .u64 x.c] 160))
  rw [World.size_alloc] at h
  refine bodyPost_ret (results_two rfl _ _ _ ⟨w.heap.size + 1, 0, none⟩ rfl _ h) rfl ⟨?_, ((Below.refl _ w).alloc (Nat.le_refl _) _).alloc (by simp) _⟩
  rfl
theorem wmul (a b : Nat) : IntKind.u64.wrap ((a : Int) * (b : Int)) = ((a * b % 18446744073709551616 : Nat) : Int) := by
  have h := wrapM (a * b)
  rw [Int.natCast_mul] at h
  exact h
theorem wplus (a b : Nat) : IntKind.u64.wrap ((a : Int) + (b : Int)) = (((a + b) % 18446744073709551616 : Nat) : Int) := wrapM (a + b)
theorem wmul2 (b : Nat) : IntKind.u64.wrap (2 * (b : Int)) = ((2 * b % 18446744073709551616 : Nat) : Int) := wmul 2 b
theorem wmul3 (b : Nat) : IntKind.u64.wrap (3 * (b : Int)) = ((3 * b % 18446744073709551616 : Nat) : Int) := wmul 3 b
theorem mod_lt64 (n : Nat) : n % 18446744073709551616 < 18446744073709551616 := Nat.mod_lt _ (by decide)
set_option maxRecDepth 100000 in
set_option maxHeartbeats 1000000 in
theorem square_any (a f : Nat) (ha : a < 18446744073709551616) (hf : f < 18446744073709551616) (w : World) :
    Calls Tryz.prog 113 #[.agg #[.int .u64 a, .int .u64 f]] w fun e w' => e = .returned (.int .u64 (sqN a f)) ∧ Below w.heap.size w w' := by
  have e1 := wmul2 a
  have e2 := wmul a a
  have HT := Lib.hid (times_any ⟨f, 2 * a % 18446744073709551616, 0⟩ ⟨hf, mod_lt64 _, Nat.zero_lt_succ _⟩ f hf)
  have e3 := wplus (timesL ⟨f, 2 * a % 18446744073709551616, 0⟩ f).c (a * a % 18446744073709551616)
  rw [show ((timesL ⟨f, 2 * a % 18446744073709551616, 0⟩ f).c + a * a % 18446744073709551616) % 18446744073709551616 = sqN a f from rfl] at e3
  generalize sqN a f = out at *
  generalize timesL ⟨f, 2 * a % 18446744073709551616, 0⟩ f = T at *
  generalize timesO ⟨f, 2 * a % 18446744073709551616, 0⟩ f = O at *
  unfold l3 at HT
  simp only at HT
  generalize 2 * a % 18446744073709551616 = a2 at *
  generalize a * a % 18446744073709551616 = aa at *
  go_enter Tryz.func113, Tryz.ntmps113
  go_wp2_with fail
  refine (HT.out _).mono ?_
  rintro e w1 ⟨rfl, hb1⟩
  have HB := Lib.hid (((Below.refl _ w).alloc (Nat.le_refl _) (.cells #[.int .u64 a, .int .u64 f] 158)).trans (hb1.mono (by simp)))
  have hz : w.heap.size + 1 ≤ w1.heap.size := by have := hb1.size; simp at this; omega
  clear hb1 HT
  go_wp2
  go_ret
  exact ⟨rfl, HB.out.alloc (by omega) _⟩
set_option maxRecDepth 100000 in
set_option maxHeartbeats 1000000 in
theorem cube_any (a f : Nat) (ha : a < 18446744073709551616) (hf : f < 18446744073709551616) (w : World) :
    Calls Tryz.prog 151 #[.agg #[.int .u64 a, .int .u64 f]] w fun e w' => e = .returned (.int .u64 (cuN a f)) ∧ Below w.heap.size w w' := by
  have e1 := wmul3 a
  have e2 := wmul a a
  have e5 := wmul (3 * a % 18446744073709551616) a
  have e6 := wmul (a * a % 18446744073709551616) a
  have HT := Lib.hid (times_any ⟨f, 3 * a % 18446744073709551616, 0⟩ ⟨hf, mod_lt64 _, Nat.zero_lt_succ _⟩ f hf)
  have e3 := wplus (timesL ⟨f, 3 * a % 18446744073709551616, 0⟩ f).c (3 * a % 18446744073709551616 * a % 18446744073709551616)
  have HT2 := Lib.hid (times_any (cuMid a f) ⟨mulLo_lt _ _, mod_lt64 _, mod_lt64 _⟩ f hf)
  have e7 := wplus (timesO (cuMid a f) f) (a * a % 18446744073709551616 * a % 18446744073709551616)
  rw [show (timesO (cuMid a f) f + a * a % 18446744073709551616 * a % 18446744073709551616) % 18446744073709551616 = cuN a f from rfl] at e7
  have c1 : Hid ((cuMid a f).a = (timesL ⟨f, 3 * a % 18446744073709551616, 0⟩ f).a) := Lib.hid rfl
  have c2 : Hid ((cuMid a f).b = (timesL ⟨f, 3 * a % 18446744073709551616, 0⟩ f).b) := Lib.hid rfl
  have c3 : ((timesL ⟨f, 3 * a % 18446744073709551616, 0⟩ f).c + 3 * a % 18446744073709551616 * a % 18446744073709551616) % 18446744073709551616 = (cuMid a f).c := rfl
  rw [c3] at e3
  clear c3
  unfold l3 at HT HT2
  simp only at HT
  generalize cuN a f = out at *
  generalize timesO (cuMid a f) f = O2 at *
  generalize timesL (cuMid a f) f = T2 at *
  generalize cuMid a f = M at *
  generalize timesL ⟨f, 3 * a % 18446744073709551616, 0⟩ f = T at *
  generalize timesO ⟨f, 3 * a % 18446744073709551616, 0⟩ f = O at *
  rw [c1.out, c2.out] at HT2
  clear c1 c2
  generalize 3 * a % 18446744073709551616 * a % 18446744073709551616 = a3a at *
  generalize 3 * a % 18446744073709551616 = a3 at *
  generalize a * a % 18446744073709551616 * a % 18446744073709551616 = aaa at *
  generalize a * a % 18446744073709551616 = aa at *
  go_enter Tryz.func151, Tryz.ntmps151
  go_wp2_with fail
  refine (HT.out _).mono ?_
  rintro e w1 ⟨rfl, hb1⟩
  have HB := Lib.hid (((Below.refl _ w).alloc (Nat.le_refl _) (.cells #[.int .u64 a, .int .u64 f] 158)).trans (hb1.mono (by simp)))
  have hz : w.heap.size + 1 ≤ w1.heap.size := by have := hb1.size; simp at this; omega
  have hf1 : w1.cell? ⟨w.heap.size, 1, none⟩ = some (.int .u64 f) := by
    rw [hb1.cell (p := ⟨w.heap.size, 1, none⟩) (by simp), cell_of_row _ w.heap.size 1 #[.int .u64 a, .int .u64 f] 158 (0, 0) (heap_alloc_new _ _)]
    rfl
  have hz1 : w.heap.size < w1.heap.size := by omega
  have hz2 : ¬ w1.heap.size = w.heap.size := by omega
  have hz3 : ¬ w.heap.size = w1.heap.size := by omega
  clear hb1 HT
  go_wp2_with fail
  refine (HT2.out _).mono ?_
  rintro e w2 ⟨rfl, hb2⟩
  have HB2 := Lib.hid ((HB.out.alloc (by omega) (.cells #[.int .u64 T.a, .int .u64 T.b, .int .u64 M.c] 160)).trans (hb2.mono (by simp; omega)))
  have hz4 : w.heap.size ≤ w2.heap.size := HB2.out.size
  clear hb2 HT2
  go_wp2
  go_ret
  exact ⟨rfl, HB2.out.alloc hz4 _⟩
theorem sq_bound (q : Nat) : 22 ≤ q → 484 ≤ q * q := fun h => Nat.mul_le_mul h h
theorem prTo_step (p n q : Nat) : prTo p (n + 1) q = if q * q ≤ p then (if p % q = 0 then false else prTo p n (q + 1)) else true := rfl
set_option maxRecDepth 100000 in
set_option maxHeartbeats 1000000 in
theorem prime_any (p : Nat) (hp : p ≤ 410) (w : World) : Calls Tryz.prog 152 #[.int .u64 p] w fun e w' => e = .returned (.bool (isPr p)) ∧ w = w' := by
  obtain ⟨out, hout⟩ : ∃ out, Hid (out = isPr p) := ⟨_, Lib.hid rfl⟩
  rw [← hout.out]
  go_enter Tryz.func152, Tryz.ntmps152
  go_wp2
  go_loop [3] (fun v => ∃ n q : Nat, 2 ≤ q ∧ q ≤ 22 ∧ n + q = 32 ∧ v = .int .u64 q ∧ Hid (prTo p n q = out)) (fun v => 22 - (intOf v).toNat)
  case atStart => exact ⟨30, 2, by omega, by omega, by omega, rfl, by rw [hout.out]; exact Lib.hid rfl⟩
  case round =>
    obtain ⟨n, q, hq2, hq3, hnq, rfl, hpr⟩ := hrel
    obtain ⟨qq, hqq⟩ : ∃ qq, qq = q * q := ⟨_, rfl⟩
    have e1 : (q : Int) * (q : Int) = (qq : Int) := by rw [hqq, Int.natCast_mul]
    have hqb : qq ≤ 484 := by rw [hqq]; exact Nat.mul_le_mul hq3 hq3
    obtain ⟨m, rfl⟩ : ∃ m, n = m + 1 := ⟨n - 1, by omega⟩
    have hst := hpr.out
    rw [prTo_step, ← hqq] at hst
    clear hpr
    by_cases hle : qq ≤ p
    · have hq22 : q < 22 := by
        rcases Nat.lt_or_ge q 22 with h | h
        · exact h
        · have := sq_bound q h
          omega
      rw [if_pos hle] at hst
      clear hqq
      by_cases hm : p % q = 0
      · rw [if_pos hm] at hst
        have em : (p : Int) % (q : Int) = 0 := by omega
        subst hst
        clear hm
        go_wp2
        go_ret
        exact ⟨rfl, rfl⟩
      · rw [if_neg hm] at hst
        have em : ¬ (p : Int) % (q : Int) = 0 := by omega
        have HST := Lib.hid hst
        clear hst hm
        go_wp2
        go_round
        case rel => exact ⟨m, q + 1, by omega, by omega, by omega, by go_num, HST⟩
        case measure => simp [intOf]; omega
    · rw [if_neg hle] at hst
      subst hst
      clear hqq
      go_wp2
      go_ret
      exact ⟨rfl, rfl⟩
set_option maxRecDepth 100000 in
theorem len64_max (w : World) : Calls Tryz.prog 176 #[.int .u64 18446744073709551615] w fun e w' => e = .returned (.int .i64 64) ∧ w = w' := by
  go_enter Tryz.func176, Tryz.ntmps176
  go_wp2
  go_ret
  exact ⟨ret_int (by decide +kernel), rfl⟩
theorem or_bits (f n : Nat) (hf : f < 18446744073709551616) (hn : n < 64) : bits .or .u64 (f : Int) ((2 ^ n : Nat) : Int) = ((f ||| 2 ^ n : Nat) : Int) ∧ f ||| 2 ^ n < 18446744073709551616 := by
  have h2 : 2 ^ n < 18446744073709551616 := Nat.lt_of_lt_of_le (Nat.pow_lt_pow_right (by decide) hn) (by decide)
  exact ⟨bits_or_u64_nat f (2 ^ n) hf h2, Nat.or_lt_two_pow (n := 64) hf h2⟩
def bitAt (n : Nat) : Nat := 2 ^ n / 2
theorem bitAt_succ (n : Nat) : bitAt (n + 1) = 2 ^ n := by unfold bitAt; rw [Nat.pow_succ]; omega
theorem bits_step (pw : Nat → Nat → Nat) (p w n f : Nat) : bitsTo pw p w (n + 1) f = bitsTo pw p w n (if pw w (f ||| 2 ^ n) < p then f ||| 2 ^ n else f) := rfl
theorem xor_max : bits .xor .u64 (18446744073709551615 : Int) 0 = 18446744073709551615 := by decide +kernel
def xAt (w : World) (g a b : Nat) : Prop := w.heap[g]? = some (.cells #[.int .u64 a, .int .u64 b] 158 (0, 0))
theorem xAt.c0 {w : World} {g a b : Nat} (h : xAt w g a b) : w.cell? ⟨g, 0, none⟩ = some (.int .u64 a) := by rw [cell_of_row w g 0 _ 158 (0, 0) h]; rfl
theorem xAt.c1 {w : World} {g a b : Nat} (h : xAt w g a b) : w.cell? ⟨g, 1, none⟩ = some (.int .u64 b) := by rw [cell_of_row w g 1 _ 158 (0, 0) h]; rfl
theorem xAt.free {w : World} {g a b : Nat} (h : xAt w g a b) (j : Nat) : w.frozen? ⟨g, j, none⟩ = false := by
  have h' : w.heap[g]? = some (.cells #[.int .u64 a, .int .u64 b] 158 (0, 0)) := h
  simp [World.frozen?, h']
theorem xAt.below {w w' : World} {B g a b : Nat} (h : xAt w g a b) (hb : Below B w w') (hB : g < B) : xAt w' g a b := by
  unfold xAt
  rw [hb.block g hB]; exact h
theorem xAt.lt {w : World} {g a b : Nat} (h : xAt w g a b) : g < w.heap.size := lt_of_block h
theorem xAt.set0 {w : World} {g a b : Nat} (h : xAt w g a b) (v : Nat) : xAt (w.setCell ⟨g, 0, none⟩ (.int .u64 v)) g v b := heap_setCell_same w g 0 _ 158 _ h
theorem xAt.set1 {w : World} {g a b : Nat} (h : xAt w g a b) (v : Nat) : xAt (w.setCell ⟨g, 1, none⟩ (.int .u64 v)) g a v := heap_setCell_same w g 1 _ 158 _ h
def cellN (w : World) (g : Nat) : Nat := (intOf ((w.cell? ⟨g, 0, none⟩).getD undef)).toNat
theorem cellN_x {w : World} {g a b : Nat} (h : xAt w g a b) : cellN w g = a := by unfold cellN; rw [h.c0]; simp [intOf]
set_option maxRecDepth 100000 in
set_option maxHeartbeats 2000000 in
theorem root_any (F : Nat) (pw : Nat → Nat → Nat) (EG : ∀ args w, (callFunc F args).run Tryz.prog w = .ok (.enter F args) w)
    (HPW : ∀ a f : Nat, a < 18446744073709551616 → f < 18446744073709551616 → ∀ w : World, Calls Tryz.prog F #[.agg #[.int .u64 a, .int .u64 f]] w fun e w' => e = .returned (.int .u64 (pw a f)) ∧ Below w.heap.size w w')
    (p : Nat) (hp : p < 18446744073709551616) (hok : wholeOk pw p = true) (w : World) :
    Calls Tryz.prog 153 #[.int .u64 p, .func (.func F) #[] #[]] w fun e w' => e = .returned (.int .u64 (rootN pw p)) ∧ Below w.heap.size w w' := by
  obtain ⟨wh, hwh⟩ : ∃ wh, Hid (wh = wholeN pw p) := ⟨_, Lib.hid rfl⟩
  obtain ⟨out, hout⟩ : ∃ out, Hid (out = rootN pw p) := ⟨_, Lib.hid rfl⟩
  have hbits : Hid (out = bitsTo pw p wh 64 0) := by unfold Hid; rw [hout.out, hwh.out]; unfold rootN; rw [force_eq]
  rw [← hout.out]
  have hw30 : wh < 30 := by
    have h := hok
    unfold wholeOk at h
    simp only [Bool.and_eq_true, decide_eq_true_eq] at h
    rw [hwh.out]; exact h.1.1
  have HW1 : Hid (∀ k, k < wh → pw (k + 1) 0 ≤ p) := by
    intro k hk
    have h := hok
    unfold wholeOk at h
    simp only [Bool.and_eq_true, decide_eq_true_eq] at h
    have h2 := List.all_eq_true.1 h.1.2 k (List.mem_range.2 (by rw [← hwh.out]; exact hk))
    simpa using h2
  have HW2 : Hid (p < pw (wh + 1) 0) := by
    have h := hok
    unfold wholeOk at h
    simp only [Bool.and_eq_true, decide_eq_true_eq] at h
    unfold Hid
    rw [hwh.out]; exact h.2
  have HP := Lib.hid HPW
  clear HPW hok hout
  go_enter Tryz.func153, Tryz.ntmps153
  go_wp2
  go_loopw [9] (fun _ wr => ∃ k : Nat, k ≤ wh ∧ xAt wr w.heap.size k 0 ∧ Below w.heap.size w wr) (fun _ wr => wh - cellN wr w.heap.size)
  case atStart => exact ⟨0, Nat.zero_le _, heap_alloc_new w _, (Below.refl _ w).alloc (Nat.le_refl _) _⟩
  case round =>
    obtain ⟨k, hk, hxa, hb⟩ := hrel
    have HX := Lib.hid hxa
    have HB := Lib.hid hb
    have c0 := hxa.c0
    have c1 := hxa.c1
    have hg := hxa.lt
    have hmr := Lib.hid (cellN_x hxa)
    clear hxa hb
    have hk30 : k ≤ 30 := by omega
    obtain ⟨v, hv⟩ : ∃ v, Hid (v = pw (k + 1) 0) := ⟨_, Lib.hid rfl⟩
    have HC := Lib.hid (HP.out (k + 1) 0 (by omega) (by omega))
    rw [← hv.out] at HC
    by_cases hlt : k < wh
    · have hle : v ≤ p := by rw [hv.out]; exact HW1.out k hlt
      clear hv
      go_wp2_with fail
      refine (HC.out _).mono ?_
      rintro e w2 ⟨rfl, hb2⟩
      have HX2 := Lib.hid (HX.out.below hb2 hg)
      have HB2 := Lib.hid (HB.out.trans (hb2.mono HB.out.size))
      have c02 := HX2.out.c0
      have f02 := HX2.out.free 0
      clear hb2 HX HB c0 c1
      have HX3 := Lib.hid (HX2.out.set0 (k + 1))
      have HB3 := Lib.hid (HB2.out.setCell (p := ⟨w.heap.size, 0, none⟩) (Nat.le_refl _) (.int .u64 ((k + 1 : Nat) : Int)))
      go_wp2
      go_roundw
      case rel => exact ⟨k + 1, by omega, HX3.out, HB3.out⟩
      case measure =>
        have hm : cellN (w2.setCell ⟨w.heap.size, 0, none⟩ (.int .u64 ((k : Int) + 1))) w.heap.size = k + 1 := cellN_x HX3.out
        rw [hm, hmr.out]
        omega
    · obtain rfl : k = wh := by omega
      have hle : ¬ v ≤ p := by have := HW2.out; rw [hv.out]; omega
      have hgt : p < v := by omega
      clear hv HW1 HW2
      go_wp2_with fail
      refine (HC.out _).mono ?_
      rintro e w2 ⟨rfl, hb2⟩
      have HX2 := Lib.hid (HX.out.below hb2 hg)
      have HB2 := Lib.hid (HB.out.trans (hb2.mono HB.out.size))
      clear hb2 HX HB c0 c1 hmr
      have hxm := xor_max
      go_wp2_with (go_at_call 176; refine (len64_max _).mono ?_; rintro e w' ⟨rfl, rfl⟩)
      have hx8 : bits BinOp.xor IntKind.u64 IntKind.u64.max (bits BinOp.xor IntKind.u64 IntKind.u64.max 0 / 2) = ((bitAt 64 : Nat) : Int) := by decide +kernel
      rw [hx8]
      clear hx8 hxm hle hgt HC
      go_loopw [6, 8] (fun fv bv wr => ∃ n f part : Nat, n ≤ 64 ∧ fv = .int .u64 f ∧ bv = .int .u64 (bitAt n) ∧ f < 18446744073709551616 ∧ Hid (bitsTo pw p k n f = out) ∧ xAt wr w.heap.size k part ∧ Below w.heap.size w wr) (fun _ bv _ => (intOf bv).toNat)
      case atStart => exact ⟨64, 0, 0, by omega, rfl, rfl, by omega, Lib.hid hbits.out.symm, HX2.out, HB2.out⟩
      case round =>
        clear HX2 HB2 hbits
        obtain ⟨n, f, part, hn, rfl, rfl, hf, hbt, hxa, hb⟩ := hrel
        have HX := Lib.hid hxa
        have HB := Lib.hid hb
        have hg := hxa.lt
        have f1 := hxa.free 1
        have c1 := hxa.c1
        clear hxa hb
        rcases Nat.eq_zero_or_pos n with rfl | hn0
        · have ho : f = out := hbt.out
          subst ho
          rw [show ((bitAt 0 : Nat) : Int) = (0 : Int) from rfl]
          clear hbt
          go_wp2
          go_ret
          exact ⟨rfl, HB.out⟩
        · obtain ⟨m, rfl⟩ : ∃ m, n = m + 1 := ⟨n - 1, by omega⟩
          obtain ⟨hor, hfb⟩ := or_bits f m hf (by omega)
          have hst := hbt.out
          rw [bits_step] at hst
          rw [bitAt_succ m]
          have hb0 : 0 < 2 ^ m := Nat.pos_of_ne_zero (by exact Nat.ne_of_gt (Nat.pow_pos (by decide)))
          have hhalf : ((2 ^ m : Nat) : Int) / 2 = ((bitAt m : Nat) : Int) := by unfold bitAt; omega
          have hdec : bitAt m < 2 ^ m := by unfold bitAt; omega
          have HDEC := Lib.hid hdec
          clear hbt hdec
          obtain ⟨fb, hfb0⟩ : ∃ fb, Hid (fb = f ||| 2 ^ m) := ⟨_, Lib.hid rfl⟩
          rw [← hfb0.out] at hor hfb hst
          generalize 2 ^ m = b at *
          have hbI : (0 : Int) < (b : Int) := by omega
          obtain ⟨v2, hv2⟩ : ∃ v2, Hid (v2 = pw k fb) := ⟨_, Lib.hid rfl⟩
          rw [← hv2.out] at hst
          have HC := Lib.hid (HP.out k fb (by omega) hfb)
          rw [← hv2.out] at HC
          clear hv2
          have hwi := wrap_id hfb
          have HOR := Lib.hid hor
          have HX3 := Lib.hid (HX.out.set1 fb)
          have HB3 := Lib.hid (HB.out.setCell (p := ⟨w.heap.size, 1, none⟩) (Nat.le_refl _) (.int .u64 (fb : Int)))
          obtain ⟨w3, hw3⟩ : ∃ w3, w3 = wr.setCell ⟨w.heap.size, 1, none⟩ (.int .u64 (fb : Int)) := ⟨_, rfl⟩
          rw [← hw3] at HX3 HB3
          have hg3 := HX3.out.lt
          have hseg : ∀ j v, [Value.int .u64 (k : Int), Value.int .u64 (fb : Int)][j]? = some v → w3.cell? ⟨w.heap.size, 0 + j, none⟩ = some v := by
            intro j v hv
            rw [cell_of_row w3 w.heap.size (0 + j) _ 158 (0, 0) HX3.out, Nat.zero_add]
            simpa using hv
          have HSEG := Lib.hid hseg
          clear hseg
          go_upto_region 10 with (fail)
          rw [← hw3]
          clear hw3 c1 f1 HX HB hor hwi
          go_wp2_with (refine wpList_load_seg rfl 158 (.tmp 5) rfl w.heap.size 0 rfl [.int .u64 (k : Int), .int .u64 (fb : Int)] _ HSEG.out Tryz.underlying158 rfl (by kernel_rfl) ?_)
          refine (HC.out _).mono ?_
          rintro e w4 ⟨rfl, hb4⟩
          have HX4 := Lib.hid (HX3.out.below hb4 hg3)
          have HB4 := Lib.hid (HB3.out.trans (hb4.mono HB3.out.size))
          clear hb4 HSEG HC
          obtain ⟨hor2, -⟩ : bits .or .u64 (f : Int) (b : Int) = (fb : Int) ∧ True := ⟨HOR.out, trivial⟩
          by_cases hlt2 : v2 < p
          · rw [if_pos hlt2] at hst
            have HST := Lib.hid hst
            clear hst
            go_wp2
            go_roundw
            case rel => exact ⟨m, fb, fb, by omega, rfl, rfl, hfb, HST, HX4.out, HB4.out⟩
            case measure => have := HDEC.out; simp [intOf]; omega
          · rw [if_neg hlt2] at hst
            have HST := Lib.hid hst
            clear hst
            go_wp2
            go_roundw
            case rel => exact ⟨m, f, fb, by omega, rfl, rfl, hf, HST, HX4.out, HB4.out⟩
            case measure => have := HDEC.out; simp [intOf]; omega
def RowL (w : World) (g : Nat) (t : TypeId) (cs : List Value) : Prop := w.heap[g]? = some (.cells cs.toArray t (0, 0))
theorem RowL.seg {w : World} {g : Nat} {t : TypeId} {cs : List Value} (h : RowL w g t cs) : ∀ j v, cs[j]? = some v → w.cell? ⟨g, 0 + j, none⟩ = some v := by
  intro j v hv
  rw [cell_of_row _ _ _ _ _ _ h, Nat.zero_add, List.getElem?_toArray, hv]
theorem RowL.lt {w : World} {g : Nat} {t : TypeId} {cs : List Value} (h : RowL w g t cs) : g < w.heap.size := lt_of_block h
theorem RowL.new (w : World) (t : TypeId) (cs : List Value) : RowL (w.alloc (.cells cs.toArray t)) w.heap.size t cs := heap_alloc_new w _
theorem RowL.alloc {w : World} {g : Nat} {t : TypeId} {cs : List Value} (h : RowL w g t cs) (o : Obj) : RowL (w.alloc o) g t cs := by
  unfold RowL; rw [Below.heap_alloc _ _ _ h.lt]; exact h
theorem RowL.below {w w' : World} {g : Nat} {t : TypeId} {cs : List Value} (h : RowL w g t cs) (hb : Below w.heap.size w w') : RowL w' g t cs := by
  unfold RowL; rw [hb.block g h.lt]; exact h
theorem RowL.setRow {w : World} {g : Nat} {t : TypeId} {cs : List Value} (h : RowL w g t cs) (cs2 : List Value) : RowL (w.setRow g cs2.toArray) g t cs2 := setRow_heap _ _ _ _ _ _ h
theorem RowL.setRow_ne {w : World} {g k : Nat} {t : TypeId} {cs : List Value} (h : RowL w g t cs) (hk : g ≠ k) (cs2 : Array Value) : RowL (w.setRow k cs2) g t cs := by
  unfold RowL; rw [setRow_other _ _ _ _ hk]; exact h
section
variable {P : Program} {ops : Array Oper} {Q : Exit → Act → World → Prop} {md : Region.Mode} {S : World → Prop} {f : Nat}
theorem AnyF.first {i : Nat} {oi : Oper} {v : Value} (hi : ops[i]? = some oi) (hsel : ∀ (j : Nat) (o : Oper) cs b, ops[j]? = some o → o.op ≠ .select cs b)
    (hQ : ∀ c a w, Q (.panic c) (a.put oi.dst v) w → Q (.panic c) a w) (hif : i ≠ f) (hw : ∀ o, ops[f]? = some o → ∃ e ∈ o.after, Region.binds md e = true ∧ e.on = i) :
    ∀ (n : Nat) (listed : Array Bool) (a : Act) (w : World),
      (∀ j oj, ops[j]? = some oj → j ≠ i → listed.getD j true = false → (∀ e ∈ oj.after, Region.binds md e = true → e.on ≠ i) → oi.apart ops oj = true) →
      i ∈ Region.ready md ops listed → YieldsIf P ops S oi v a → S w → AnyF P md ops Q S f n (listed.setIfInBounds i true) (a.put oi.dst v) w → AnyF P md ops Q S f (n + 1) listed a w := by
  intro n
  induction n with
  | zero =>
    intro listed a w _ hr hy hS H
    refine ⟨fun h => (by rw [h] at hr; cases hr), fun j hj => ?_⟩
    by_cases hji : j = i
    · subst hji; exact hy.wpOp hi hS ⟨fun _ => ⟨hS, H⟩, fun e => absurd e hif⟩
    · have := ready_mono hj hji
      rw [H.1] at this
      cases this
  | succ n ih =>
    intro listed a w hfree hr hy hS H
    refine ⟨fun h => (by rw [h] at hr; cases hr), fun j hj => ?_⟩
    by_cases hji : j = i
    · subst hji; exact hy.wpOp hi hS ⟨fun _ => ⟨hS, H⟩, fun e => absurd e hif⟩
    · have h1 := H.2 j (ready_mono hj hji)
      obtain ⟨hjun, oj, hoj, hall⟩ := mem_ready.1 hj
      have hnot : ∀ e ∈ oj.after, Region.binds md e = true → e.on ≠ i := fun e he hb heq => by
        have h1 := hall e he hb
        have h0 := (mem_ready.1 hr).1
        rw [heq] at h1
        rcases Nat.lt_or_ge i listed.size with h' | h'
        · simp [h'] at h0 h1; rw [h0] at h1; cases h1
        · simp [Array.getElem?_eq_none h'] at h1
      have hjf : j ≠ f := by
        intro e
        subst e
        obtain ⟨e, he, hb, hon⟩ := hw oj hoj
        exact hnot e he hb hon
      have h2 := wpOp_putIf hoj (hfree j oj hoj hji hjun hnot) (fun cs b => hsel i oi cs b hi) (fun cs b => hsel j oj cs b hoj) hQ hy h1
      have hfree' : ∀ k ok, ops[k]? = some ok → k ≠ i → (listed.setIfInBounds j true).getD k true = false →
          (∀ e ∈ ok.after, Region.binds md e = true → e.on ≠ i) → oi.apart ops ok = true := fun k ok hk hki hun hno => by
        refine hfree k ok hk hki ?_ hno
        by_cases hjk : j = k
        · subst hjk; exact hjun
        · rw [getD_set_ne true hjk] at hun; exact hun
      refine wpOp_mono (fun a' w' h3 => ⟨fun _ => ⟨(h3.2.1 hjf).1, ih (listed.setIfInBounds j true) a' w' hfree' (ready_mono hr (Ne.symm hji)) h3.1 (h3.2.1 hjf).1 ?_⟩, fun e => absurd e hjf⟩) h2
      rw [Array.setIfInBounds_comm _ _ hji]
      exact (h3.2.1 hjf).2
variable {n : Nat} {listed : Array Bool} {a : Act} {w w2 : World} {i : Nat} {rs : List Nat}
theorem AnyF.take (i : Nat) (d : Option Tmp) (opr : Op) (v : Value) (ho : (ops[i]?).map (fun o => (o.dst, o.op, o.guard)) = some (d, opr, none)) (hs : Region.noSelect ops = true) (hf : Region.free md ops listed i = true) (hr : (Region.ready md ops listed).contains i = true)
    (hQ : ∀ c a w, Q (.panic c) (a.put d v) w → Q (.panic c) a w) (hif : (i == f) = false) (hwt : Region.waitsFor md ops f i = true) (hy : ∀ (o : Oper), o.op = opr → ∀ w, S w → (execOp a.eval o).run P w = .ok (.value v) w) (hS : S w)
    (h : AnyF P md ops Q S f n (listed.setIfInBounds i true) (a.put d v) w) : AnyF P md ops Q S f (n + 1) listed a w := by
  cases hq : ops[i]? with
  | none => simp [hq] at ho
  | some o =>
    simp [hq] at ho
    obtain ⟨rfl, rfl, hg⟩ := ho
    refine AnyF.first hq (Region.noSelect_spec hs) hQ (by simpa using hif) ?_ n listed a w (Region.free_spec hq hf) (by simpa using hr) (Or.inl ⟨by simp [Region.wanted, hg], hy o rfl⟩) hS h
    intro o2 ho2
    obtain ⟨oj, h1, e, h2, h3, h4⟩ := Region.waitsFor_spec hwt
    rw [ho2] at h1
    cases h1
    exact ⟨e, h2, h3, h4⟩
theorem AnyF.first0 {i g : Nat} {oi : Oper} {v : Value} (hi : ops[i]? = some oi) (hsel : ∀ (j : Nat) (o : Oper) cs b, ops[j]? = some o → o.op ≠ .select cs b)
    (hQ : ∀ c a w, Q (.panic c) (a.put oi.dst v) w → Q (.panic c) a w) (hif : i ≠ f) (hg : ops[g]? = none) :
    ∀ (n : Nat) (listed : Array Bool) (a : Act) (w : World),
      (∀ j oj, ops[j]? = some oj → j ≠ i → listed.getD j true = false → (∀ e ∈ oj.after, Region.binds md e = true → e.on ≠ i) → oi.apart ops oj = true) →
      i ∈ Region.ready md ops listed → YieldsIf P ops (fun _ => True) oi v a → S w → AnyF P md ops Q S f n (listed.setIfInBounds i true) (a.put oi.dst v) w → AnyF P md ops Q S f (n + 1) listed a w := by
  intro n
  induction n with
  | zero =>
    intro listed a w _ hr hy hS H
    refine ⟨fun h => (by rw [h] at hr; cases hr), fun j hj => ?_⟩
    by_cases hji : j = i
    · subst hji; exact hy.wpOp hi trivial ⟨fun _ => ⟨hS, H⟩, fun e => absurd e hif⟩
    · have := ready_mono hj hji
      rw [H.1] at this
      cases this
  | succ n ih =>
    intro listed a w hfree hr hy hS H
    refine ⟨fun h => (by rw [h] at hr; cases hr), fun j hj => ?_⟩
    by_cases hji : j = i
    · subst hji; exact hy.wpOp hi trivial ⟨fun _ => ⟨hS, H⟩, fun e => absurd e hif⟩
    · have h1 := H.2 j (ready_mono hj hji)
      obtain ⟨hjun, oj, hoj, hall⟩ := mem_ready.1 hj
      have hnot : ∀ e ∈ oj.after, Region.binds md e = true → e.on ≠ i := fun e he hb heq => by
        have h1 := hall e he hb
        have h0 := (mem_ready.1 hr).1
        rw [heq] at h1
        rcases Nat.lt_or_ge i listed.size with h' | h'
        · simp [h'] at h0 h1; rw [h0] at h1; cases h1
        · simp [Array.getElem?_eq_none h'] at h1
      have h2 := wpOp_putIf hoj (hfree j oj hoj hji hjun hnot) (fun cs b => hsel i oi cs b hi) (fun cs b => hsel j oj cs b hoj) hQ hy h1
      have hfree' : ∀ k ok, ops[k]? = some ok → k ≠ i → (listed.setIfInBounds j true).getD k true = false →
          (∀ e ∈ ok.after, Region.binds md e = true → e.on ≠ i) → oi.apart ops ok = true := fun k ok hk hki hun hno => by
        refine hfree k ok hk hki ?_ hno
        by_cases hjk : j = k
        · subst hjk; exact hjun
        · rw [getD_set_ne true hjk] at hun; exact hun
      have hig : i ≠ g := fun e => by rw [← e, hi] at hg; cases hg
      refine wpOp_mono (fun a' w' h3 => ⟨fun hjf => ⟨(h3.2.1 hjf).1, ih (listed.setIfInBounds j true) a' w' hfree' (ready_mono hr (Ne.symm hji)) h3.1 (h3.2.1 hjf).1 ?_⟩, fun hjf => ?_⟩) h2
      · rw [Array.setIfInBounds_comm _ _ hji]
        exact (h3.2.1 hjf).2
      · refine any_of_F (S := fun _ => True) (f := g) _ _ _ _ (AnyF.first hi hsel hQ hig (fun o ho => by rw [hg] at ho; cases ho) n (listed.setIfInBounds j true) a' w' hfree' (ready_mono hr (Ne.symm hji)) h3.1 trivial (F_of_any _ _ _ _ ?_))
        rw [Array.setIfInBounds_comm _ _ hji]
        exact h3.2.2 hjf
theorem AnyF.take0 {n : Nat} {listed : Array Bool} {a : Act} {w : World} (i g : Nat) (d : Option Tmp) (opr : Op) (v : Value) (ho : (ops[i]?).map (fun o => (o.dst, o.op, o.guard)) = some (d, opr, none)) (hs : Region.noSelect ops = true) (hf : Region.free md ops listed i = true) (hr : (Region.ready md ops listed).contains i = true)
    (hQ : ∀ c a w, Q (.panic c) (a.put d v) w → Q (.panic c) a w) (hif : (i == f) = false) (hg : ops[g]? = none) (hy : ∀ (o : Oper), o.op = opr → ∀ w, (execOp a.eval o).run P w = .ok (.value v) w) (hS : S w)
    (h : AnyF P md ops Q S f n (listed.setIfInBounds i true) (a.put d v) w) : AnyF P md ops Q S f (n + 1) listed a w := by
  cases hq : ops[i]? with
  | none => simp [hq] at ho
  | some o =>
    simp [hq] at ho
    obtain ⟨rfl, rfl, hgd⟩ := ho
    exact AnyF.first0 hq (Region.noSelect_spec hs) hQ (by simpa using hif) hg n listed a w (Region.free_spec hq hf) (by simpa using hr) (Or.inl ⟨by simp [Region.wanted, hgd], fun w _ => hy o rfl w⟩) hS h
theorem AnyF.ready (hr : Region.ready md ops listed = rs) (hne : rs ≠ []) (h : ReadyF P md ops Q S f n listed a w rs) : AnyF P md ops Q S f (n + 1) listed a w :=
  ⟨fun h0 => absurd (hr ▸ h0) hne, hr ▸ h⟩
theorem ReadyF.cons {o : Oper} (ho : ops[i]? = some o) (hg : o.guard = none)
    (h : ∀ K : Act → World → Prop, (∀ a' w', (i ≠ f → S w' ∧ AnyF P md ops Q S f n (listed.setIfInBounds i true) a' w') ∧ (i = f → wpAny P md ops Q n (listed.setIfInBounds i true) a' w') → K a' w') → Oper.wp P o a w K Q) (hs : ReadyF P md ops Q S f n listed a w rs) : ReadyF P md ops Q S f n listed a w (i :: rs) := fun j hj => by
  rcases List.mem_cons.1 hj with rfl | hj
  · refine wpOp_step ho (fun K hK => ?_)
    rw [if_pos (by simp [Region.wanted, hg])]
    exact h K hK
  · exact hs j hj
theorem ReadyF.op (d : Option Tmp) (opr : Op) (ho : (ops[i]?).map (fun o => (o.dst, o.op, o.guard)) = some (d, opr, none)) (v : Value)
    (hrun : ∀ o : Oper, o.op = opr → (execOp a.eval o).run P w = .ok (.value v) w2) (hS : S w2) (h : AnyF P md ops Q S f n (listed.setIfInBounds i true) (a.put d v) w2)
    (hs : ReadyF P md ops Q S f n listed a w rs) (hif : i ≠ f := by decide) : ReadyF P md ops Q S f n listed a w (i :: rs) := by
  cases hq : ops[i]? with
  | none => simp [hq] at ho
  | some o =>
    simp [hq] at ho
    obtain ⟨rfl, rfl, hg⟩ := ho
    exact ReadyF.cons hq hg (fun K hK => by unfold Oper.wp; rw [hrun o rfl]; exact hK _ _ ⟨fun _ => ⟨hS, h⟩, fun e => absurd e hif⟩) hs
theorem ReadyF.last (opr : Op) (ho : (ops[f]?).map (fun o => (o.dst, o.op, o.guard)) = some (none, opr, none))
    (hrun : ∀ o : Oper, o.op = opr → (execOp a.eval o).run P w = .ok .skip w2) (h : wpAny P md ops Q n (listed.setIfInBounds f true) a w2)
    (hs : ReadyF P md ops Q S f n listed a w rs) : ReadyF P md ops Q S f n listed a w (f :: rs) := by
  cases hq : ops[f]? with
  | none => simp [hq] at ho
  | some o =>
    simp [hq] at ho
    obtain ⟨hd, rfl, hg⟩ := ho
    refine ReadyF.cons hq hg (fun K hK => ?_) hs
    unfold Oper.wp
    rw [hrun o rfl]
    have : a.put o.dst undef = a := by rw [hd]; rfl
    have h2 : K a w2 := hK _ _ ⟨fun e => absurd rfl e, fun _ => h⟩
    rw [← this] at h2
    exact h2
theorem ReadyF.call (d : Option Tmp) (g : FuncId) (args : Array Operand) (tys : Array TypeId) (ho : (ops[i]?).map (fun o => (o.dst, o.op, o.guard)) = some (d, .call { callee := .value (.func g), args := args, argTypes := tys }, none))
    (avs : Array Value) (has : args.map a.eval = avs) (eg : ∀ args w, (callFunc g args).run P w = .ok (.enter g args) w) (R : Ending → World → Prop) (hc : Calls P g avs w R)
    (hK : ∀ v w', R (.returned v) w' → S w' ∧ AnyF P md ops Q S f n (listed.setIfInBounds i true) (a.put d v) w') (hnp : ∀ c w', ¬ R (.panicked c) w') (hno : ∀ w', ¬ R .outgrown w')
    (hs : ReadyF P md ops Q S f n listed a w rs) (hif : i ≠ f := by decide) : ReadyF P md ops Q S f n listed a w (i :: rs) := by
  cases hq : ops[i]? with
  | none => simp [hq] at ho
  | some o =>
    simp [hq] at ho
    obtain ⟨rfl, hop, hg⟩ := ho
    refine ReadyF.cons hq hg (fun K hK2 => ?_) hs
    have hev : a.eval (.func g) = .func (.func g) #[] #[] := rfl
    have hres : (resolve a.eval { callee := .value (.func g), args := args, argTypes := tys } o.type).run P w = .ok { target := .fn (.func g) #[], args := avs } w := by
      simp [resolve, hev, has, Deferred.ofValue]
    have hx : (execOp a.eval o).run P w = .ok (.enter g avs) w := by
      unfold execOp
      simp only [hop, Sem.run_bind, hres, Result.andThen_ok, invoke]
      simp [eg]
    unfold Oper.wp
    rw [hx]
    refine hc.mono ?_
    intro e w' hr
    cases e with
    | returned v => exact hK2 _ _ ⟨fun _ => hK v w' hr, fun e => absurd e hif⟩
    | panicked c => exact (hnp c w' hr).elim
    | outgrown => exact (hno w' hr).elim
end
end Go.Proofs.YtdajmekliodmcaaGreatDoor.W4
namespace Go.Proofs.YtdajmekliodmcaaGreatDoor.W4
set_option linter.unusedSimpArgs false
open Go.Proofs.YtdajmekliodmcaaGreatDoor.P8
open Go.RowKit Go.Shelf
set_option linter.unusedVariables false
attribute [local go_sem] Oper.semAt_some
section
variable {F : Fence} {n : Nat} {P : Program} {ops : Array Oper} {Q : Exit → Act → World → Prop} {a : Act} {w w2 : World} {rest : List Oper} {o : Oper}
variable {md : Region.Mode} {fuel : Nat} {listed : Array Bool} {w3 : World} {i j : Nat} {rs : List Nat}
theorem AllReadyIn.op (d : Option Tmp) (opr : Op) (ho : (ops[i]?).map (fun o => (o.dst, o.op, o.guard)) = some (d, opr, none)) (hnc : ∀ c, opr ≠ .call c) (hnd : ∀ c, opr ≠ .defer c) (v : Value)
    (hrun : ∀ o : Oper, o.op = opr → (execOp a.eval o).run P w = .ok (.value v) w2) (h : wpAnyIn F n P md ops Q fuel (listed.setIfInBounds i true) (a.put d v) w2)
    (hs : AllReadyIn F n P md ops Q fuel listed a w rs) : AllReadyIn F n P md ops Q fuel listed a w (i :: rs) := by
  cases hq : ops[i]? with
  | none => simp [hq] at ho
  | some o =>
    simp [hq] at ho
    obtain ⟨rfl, rfl, hg⟩ := ho
    exact AllReadyIn.cons hq (fun K' hK => by rw [if_pos (by simp [Region.wanted, hg])]; exact opIn_run hnc hnd hg v (hrun o rfl) (hK _ _ h)) hs
end
section
variable {F : Fence} {n : Nat} {P : Program} {ops : Array Oper} {Q : Exit → Act → World → Prop} {a : Act} {w w2 : World} {rest : List Oper} {o : Oper}
end
end Go.Proofs.YtdajmekliodmcaaGreatDoor.W4
namespace Go.Proofs.YtdajmekliodmcaaGreatDoor.W4
set_option linter.unusedSimpArgs false
open Go.Proofs.YtdajmekliodmcaaGreatDoor.P8
open Go.RowKit
set_option linter.unusedVariables false
def l4 (x : N4) : List Value := rowOf .u64 4 (at4 x)
def o4 : N4 := ⟨0, 0, 0, 0⟩
def Six (B : Nat) (w0 w : World) (ga gr gx gs gc g1 : Nat) (a : N4) (r : R3) : Prop :=
  RowL w ga 36 (l4 a) ∧ RowL w gr 36 (l4 o4) ∧ RowL w gx 36 (l4 r.x) ∧ RowL w gs 36 (l4 r.s) ∧ RowL w gc 36 (l4 r.c) ∧ RowL w g1 36 (l4 one4) ∧ Below B w0 w
theorem Six.below {B : Nat} {w0 w w' : World} {ga gr gx gs gc g1 : Nat} {a : N4} {r : R3} (h : Six B w0 w ga gr gx gs gc g1 a r) (hB : B ≤ w.heap.size) (hb : Below w.heap.size w w') : Six B w0 w' ga gr gx gs gc g1 a r :=
  ⟨h.1.below hb, h.2.1.below hb, h.2.2.1.below hb, h.2.2.2.1.below hb, h.2.2.2.2.1.below hb, h.2.2.2.2.2.1.below hb, h.2.2.2.2.2.2.trans (hb.mono hB)⟩
theorem Six.setRow {B : Nat} {w0 w : World} {ga gr gx gs gc g1 : Nat} {a : N4} {r : R3} (h : Six B w0 w ga gr gx gs gc g1 a r) (g : Nat) (cs : Array Value) (hB : B ≤ g) (h0 : ga ≠ g) (h1 : gr ≠ g) (h2 : gx ≠ g) (h3 : gs ≠ g) (h4 : gc ≠ g) (h5 : g1 ≠ g) : Six B w0 (w.setRow g cs) ga gr gx gs gc g1 a r :=
  ⟨h.1.setRow_ne h0 _, h.2.1.setRow_ne h1 _, h.2.2.1.setRow_ne h2 _, h.2.2.2.1.setRow_ne h3 _, h.2.2.2.2.1.setRow_ne h4 _, h.2.2.2.2.2.1.setRow_ne h5 _, h.2.2.2.2.2.2.trans ⟨rfl, rfl, rfl, by simp, fun k hk => setRow_other _ _ _ _ (by omega)⟩⟩
def numsV (kd : IntKind) (l : List Nat) : List Value := l.map fun (x : Nat) => .int kd (x : Int)
theorem numsV_append (kd : IntKind) (l m : List Nat) : numsV kd (l ++ m) = numsV kd l ++ numsV kd m := by simp [numsV]
theorem info27 : (Tryz.prog.info? 34).map (fun i => (i.zero, i.size, i.bytes)) = some (some (.int .u64 0), 1, 8) := by kernel_rfl
theorem own_form {w : World} {base : Nat} {e : TypeId} {size : Nat} {v : Value} {n : Nat} {xs : List Value} (h : w.ownsRow base e size v n xs) : ∃ p c, v = .slice p n c := by
  rcases h.2 with ⟨h1, h2⟩ | ⟨g, cap, cur, h1, -⟩
  · exact ⟨none, 0, by rw [h1, h2]⟩
  · exact ⟨_, _, h1⟩
theorem own_some {w : World} {base : Nat} {e : TypeId} {size : Nat} {p : Option Addr} {c n : Nat} {xs : List Value} (h : w.ownsRow base e size (.slice p n c) n xs) (hn : 0 < n) : ∃ g, p = some ⟨g, 0, none⟩ := by
  rcases h.2 with ⟨h1, h2⟩ | ⟨g, cap, cur, h1, -⟩
  · omega
  · injection h1 with h1; exact ⟨g, h1⟩
theorem own_le {w : World} {base : Nat} {e : TypeId} {size : Nat} {p : Option Addr} {c n : Nat} {xs : List Value} (h : w.ownsRow base e size (.slice p n c) n xs) : n ≤ c := by
  rcases h.2 with ⟨h1, h2⟩ | ⟨g, cap, cur, h1, -, -, h4, -⟩
  · omega
  · injection h1 with _ _ h1; omega
end Go.Proofs.YtdajmekliodmcaaGreatDoor.W4
