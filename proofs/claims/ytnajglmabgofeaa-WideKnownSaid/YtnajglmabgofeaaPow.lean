/- Squares and cubes of a number with bits behind its point, of package wide. No condition but that the numbers have 64 bits. -/
import Derived.Test.YtnajglmabgofeaaTimes
import Derived.Deep.RegionHeld3
namespace Go.Proofs.Ytnajglmabgofeaa
open Go.RowKit
set_option linter.unusedVariables false
theorem wmul (a b : Nat) : IntKind.u64.wrap ((a : Int) * (b : Int)) = ((a * b % 18446744073709551616 : Nat) : Int) := by
  have h := wrapM (a * b)
  rw [Int.natCast_mul] at h
  exact h
theorem wplus (a b : Nat) : IntKind.u64.wrap ((a : Int) + (b : Int)) = (((a + b) % 18446744073709551616 : Nat) : Int) := wrapM (a + b)
theorem wmul2 (b : Nat) : IntKind.u64.wrap (2 * (b : Int)) = ((2 * b % 18446744073709551616 : Nat) : Int) := wmul 2 b
theorem wmul3 (b : Nat) : IntKind.u64.wrap (3 * (b : Int)) = ((3 * b % 18446744073709551616 : Nat) : Int) := wmul 3 b
theorem mod_lt64 (n : Nat) : n % 18446744073709551616 < 18446744073709551616 := Nat.mod_lt _ (by decide)
set_option maxRecDepth 100000 in
set_option maxHeartbeats 1000000 in
theorem square_any (a f : Nat) (ha : a < 18446744073709551616) (hf : f < 18446744073709551616) (w : World) :
    Calls Try.prog 13 #[.agg #[.int .u64 a, .int .u64 f]] w fun e w' => e = .returned (.int .u64 (sqN a f)) ∧ Below w.heap.size w w' := by
  have e1 := wmul2 a
  have e2 := wmul a a
  have HT := Lib.hid (times_any ⟨f, 2 * a % 18446744073709551616, 0⟩ ⟨hf, mod_lt64 _, Nat.zero_lt_succ _⟩ f hf)
  have e3 := wplus (timesL ⟨f, 2 * a % 18446744073709551616, 0⟩ f).c (a * a % 18446744073709551616)
  rw [show ((timesL ⟨f, 2 * a % 18446744073709551616, 0⟩ f).c + a * a % 18446744073709551616) % 18446744073709551616 = sqN a f from rfl] at e3
  generalize sqN a f = out at *
  generalize timesL ⟨f, 2 * a % 18446744073709551616, 0⟩ f = T at *
  generalize timesO ⟨f, 2 * a % 18446744073709551616, 0⟩ f = O at *
  unfold l3 at HT
  simp only at HT
  generalize 2 * a % 18446744073709551616 = a2 at *
  generalize a * a % 18446744073709551616 = aa at *
  go_enter Try.func13, Try.ntmps13
  go_wp2_with fail
  refine (HT.out _).mono ?_
  rintro e w1 ⟨rfl, hb1⟩
  have HB := Lib.hid (((Below.refl _ w).alloc (Nat.le_refl _) (.cells #[.int .u64 a, .int .u64 f] 49)).trans (hb1.mono (by simp)))
  have hz : w.heap.size + 1 ≤ w1.heap.size := by have := hb1.size; simp at this; omega
  clear hb1 HT
  go_wp2
  go_ret
  exact ⟨rfl, HB.out.alloc (by omega) _⟩
set_option maxRecDepth 100000 in
set_option maxHeartbeats 1000000 in
theorem cube_any (a f : Nat) (ha : a < 18446744073709551616) (hf : f < 18446744073709551616) (w : World) :
    Calls Try.prog 22 #[.agg #[.int .u64 a, .int .u64 f]] w fun e w' => e = .returned (.int .u64 (cuN a f)) ∧ Below w.heap.size w w' := by
  have e1 := wmul3 a
  have e2 := wmul a a
  have e5 := wmul (3 * a % 18446744073709551616) a
  have e6 := wmul (a * a % 18446744073709551616) a
  have HT := Lib.hid (times_any ⟨f, 3 * a % 18446744073709551616, 0⟩ ⟨hf, mod_lt64 _, Nat.zero_lt_succ _⟩ f hf)
  have e3 := wplus (timesL ⟨f, 3 * a % 18446744073709551616, 0⟩ f).c (3 * a % 18446744073709551616 * a % 18446744073709551616)
  have HT2 := Lib.hid (times_any (cuMid a f) ⟨mulLo_lt _ _, mod_lt64 _, mod_lt64 _⟩ f hf)
  have e7 := wplus (timesO (cuMid a f) f) (a * a % 18446744073709551616 * a % 18446744073709551616)
  rw [show (timesO (cuMid a f) f + a * a % 18446744073709551616 * a % 18446744073709551616) % 18446744073709551616 = cuN a f from rfl] at e7
  have c1 : Hid ((cuMid a f).a = (timesL ⟨f, 3 * a % 18446744073709551616, 0⟩ f).a) := Lib.hid rfl
  have c2 : Hid ((cuMid a f).b = (timesL ⟨f, 3 * a % 18446744073709551616, 0⟩ f).b) := Lib.hid rfl
  have c3 : ((timesL ⟨f, 3 * a % 18446744073709551616, 0⟩ f).c + 3 * a % 18446744073709551616 * a % 18446744073709551616) % 18446744073709551616 = (cuMid a f).c := rfl
  rw [c3] at e3
  clear c3
  unfold l3 at HT HT2
  simp only at HT
  generalize cuN a f = out at *
  generalize timesO (cuMid a f) f = O2 at *
  generalize timesL (cuMid a f) f = T2 at *
  generalize cuMid a f = M at *
  generalize timesL ⟨f, 3 * a % 18446744073709551616, 0⟩ f = T at *
  generalize timesO ⟨f, 3 * a % 18446744073709551616, 0⟩ f = O at *
  rw [c1.out, c2.out] at HT2
  clear c1 c2
  generalize 3 * a % 18446744073709551616 * a % 18446744073709551616 = a3a at *
  generalize 3 * a % 18446744073709551616 = a3 at *
  generalize a * a % 18446744073709551616 * a % 18446744073709551616 = aaa at *
  generalize a * a % 18446744073709551616 = aa at *
  go_enter Try.func22, Try.ntmps22
  go_wp2_with fail
  refine (HT.out _).mono ?_
  rintro e w1 ⟨rfl, hb1⟩
  have HB := Lib.hid (((Below.refl _ w).alloc (Nat.le_refl _) (.cells #[.int .u64 a, .int .u64 f] 49)).trans (hb1.mono (by simp)))
  have hz : w.heap.size + 1 ≤ w1.heap.size := by have := hb1.size; simp at this; omega
  have hf1 : w1.cell? ⟨w.heap.size, 1, none⟩ = some (.int .u64 f) := by
    rw [hb1.cell (p := ⟨w.heap.size, 1, none⟩) (by simp), cell_of_row _ w.heap.size 1 #[.int .u64 a, .int .u64 f] 49 (0, 0) (heap_alloc_new _ _)]
    rfl
  have hz1 : w.heap.size < w1.heap.size := by omega
  have hz2 : ¬ w1.heap.size = w.heap.size := by omega
  have hz3 : ¬ w.heap.size = w1.heap.size := by omega
  clear hb1 HT
  go_wp2_with fail
  refine (HT2.out _).mono ?_
  rintro e w2 ⟨rfl, hb2⟩
  have HB2 := Lib.hid ((HB.out.alloc (by omega) (.cells #[.int .u64 T.a, .int .u64 T.b, .int .u64 M.c] 51)).trans (hb2.mono (by simp; omega)))
  have hz4 : w.heap.size ≤ w2.heap.size := HB2.out.size
  clear hb2 HT2
  go_wp2
  go_ret
  exact ⟨rfl, HB2.out.alloc hz4 _⟩
end Go.Proofs.Ytnajglmabgofeaa
