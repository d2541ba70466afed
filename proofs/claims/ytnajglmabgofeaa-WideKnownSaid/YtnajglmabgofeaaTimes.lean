/- Products of three words with one, of package wide. No condition but that the numbers have 64 bits. -/
import Derived.Test.YtnajglmabgofeaaMul
import Derived.Test.YtnajglmabgofeaaAdd
import Derived.Laws.Externs
namespace Go.Proofs.Ytnajglmabgofeaa
open Go.RowKit
set_option linter.unusedVariables false
theorem add64_run (x y c : Nat) (hc : c ≤ 1) (W : World) : (callFunc 34 #[.int .u64 x, .int .u64 y, .int .u64 c]).run Try.prog W =
    .ok (.value (.tuple #[.int .u64 (((x + y + c) % 18446744073709551616 : Nat) : Int), .int .u64 (((x + y + c) / 18446744073709551616 : Nat) : Int)])) W := by
  rw [run_callFunc_extern (e := add64Entry) Try.func34 (by kernel_rfl) (by kernel_rfl) (by kernel_rfl) (by kernel_rfl), run_add64 x y c (by omega) (by omega) (by omega) (by omega)]
  simp only [Result.andThen]
  congr 1
def l3 (x : L3) : List Value := [.int .u64 x.a, .int .u64 x.b, .int .u64 x.c]
def L3.ok (x : L3) : Prop := x.a < 18446744073709551616 ∧ x.b < 18446744073709551616 ∧ x.c < 18446744073709551616
theorem timesL_ok (x : L3) (n : Nat) : (timesL x n).ok := ⟨mulLo_lt _ _, Nat.mod_lt _ (by decide), Nat.mod_lt _ (by decide)⟩
theorem timesO_lt (x : L3) (n : Nat) : timesO x n < 18446744073709551616 := Nat.mod_lt _ (by decide)
set_option maxRecDepth 100000 in
set_option maxHeartbeats 1000000 in
theorem times_any (x : L3) (hx : x.ok) (n : Nat) (hn : n < 18446744073709551616) (w : World) :
    Calls Try.prog 25 #[.agg (l3 x).toArray, .int .u64 n] w fun e w' => e = .returned (.tuple #[.agg (l3 (timesL x n)).toArray, .int .u64 (timesO x n)]) ∧ Below w.heap.size w w' := by
  have HM1 := Lib.hid (mul64_any x.a n hx.1 hn)
  have HM2 := Lib.hid (mul64_any x.b n hx.2.1 hn)
  have HM3 := Lib.hid (mul64_any x.c n hx.2.2 hn)
  have hcy : tmMid x n / 18446744073709551616 ≤ 1 := by
    have h1 := mulHi_lt hx.1 hn
    have h2 := mulLo_lt x.b n
    unfold tmMid
    omega
  have A1 := fun W => add64_run (mulHi x.a n) (mulLo x.b n) 0 (by omega) W
  have A2 := fun W => add64_run (mulHi x.b n) (mulLo x.c n) (tmMid x n / 18446744073709551616) hcy W
  have hW : IntKind.u64.wrap (((mulHi x.c n : Nat) : Int) + ((tmHigh x n / 18446744073709551616 : Nat) : Int)) = ((timesO x n : Nat) : Int) := wrapM _
  rw [Nat.add_zero] at A1
  rw [show mulHi x.a n + mulLo x.b n = tmMid x n from rfl] at A1
  rw [show mulHi x.b n + mulLo x.c n + tmMid x n / 18446744073709551616 = tmHigh x n from rfl] at A2
  obtain ⟨T, hT⟩ : ∃ T, Hid (T = timesL x n) := ⟨_, Lib.hid rfl⟩
  have hTa : mulLo x.a n = T.a := by rw [hT.out]; rfl
  have hTb : tmMid x n % 18446744073709551616 = T.b := by rw [hT.out]; rfl
  have hTc : tmHigh x n % 18446744073709551616 = T.c := by rw [hT.out]; rfl
  rw [← hT.out]
  rw [hTa] at HM1
  rw [hTb] at A1
  rw [hTc] at A2
  clear hTa hTb hTc hT
  generalize timesO x n = O at *
  generalize mulHi x.a n = a1 at *
  generalize mulHi x.b n = b1 at *
  generalize mulHi x.c n = c1 at *
  generalize mulLo x.b n = b0 at *
  generalize mulLo x.c n = c0 at *
  generalize tmMid x n / 18446744073709551616 = cy at *
  generalize tmHigh x n / 18446744073709551616 = cz at *
  have A1' : ∀ W, (callFunc 34 #[.int .u64 a1, .int .u64 b0, .int .u64 0]).run Try.prog W = .ok (.value (.tuple #[.int .u64 (T.b : Int), .int .u64 (cy : Int)])) W := A1
  clear A1 hcy
  unfold l3
  go_enter Try.func25, Try.ntmps25
  go_wp2_with fail
  refine (HM1.out _).mono ?_
  rintro e w' ⟨rfl, rfl⟩
  go_wp2_with fail
  refine (HM2.out _).mono ?_
  rintro e w' ⟨rfl, rfl⟩
  go_wp2_with fail
  refine (HM3.out _).mono ?_
  rintro e w' ⟨rfl, rfl⟩
  go_wp2_with fail
  have hld : ∀ W : World, (loadVar 51 ⟨W.heap.size, 0, none⟩).run Try.prog (W.alloc (.cells (l3 T).toArray 51)) = .ok (.agg (l3 T).toArray) (W.alloc (.cells (l3 T).toArray 51)) := by
    intro W
    refine run_loadVar_seg _ 51 W.heap.size 0 (l3 T) _ (fun j v hv => ?_) Try.underlying51 rfl (by kernel_rfl)
    rw [cell_of_row _ W.heap.size (0 + j) (l3 T).toArray 51 (0, 0) (heap_alloc_new _ _), Nat.zero_add, List.getElem?_toArray, hv]
  have h := hld (w.alloc (.cells #[.int .u64 x.a, .int .u64 x.b, .int .u64 x.c] 51))
  rw [World.size_alloc] at h
  refine bodyPost_ret (results_two rfl _ _ _ ⟨w.heap.size + 1, 0, none⟩ rfl _ h) rfl ⟨?_, ((Below.refl _ w).alloc (Nat.le_refl _) _).alloc (by simp) _⟩
  rfl
end Go.Proofs.Ytnajglmabgofeaa
